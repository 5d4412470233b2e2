/- Several texts, one behind the other: SupN. -/
import Derived.Test.YtpnahhpkaegeeaaKSupR
/- Contracts of package dutyref: supplyEdges, SupplyBounds. -/
set_option linter.unusedVariables false
namespace Go.Proofs.Ytpnahhpkaegeeaa
open Go.RowKit Go.Shelf
open SpanM SupM
namespace SpanC
/-- where so many in a row are counted -/
def sedges (size n : Int) (zs : List Int) : List Int := 0 :: zs.flatMap (fun e => [e % size, (e - n) % size])
theorem sedges_snoc (size n : Int) (zs : List Int) (e : Int) : sedges size n (zs ++ [e]) = sedges size n zs ++ [e % size, (e - n) % size] := by simp [sedges]
theorem sedges_len (size n : Int) (zs : List Int) : (sedges size n zs).length = zs.length * 2 + 1 := by
  induction zs with
  | nil => rfl
  | cons x r ih => simp only [sedges, List.flatMap_cons, List.length_cons, List.length_append, List.length_nil] at ih ⊢; omega
theorem edges_bd {size : Int} {l : List Sp} (hg : good size (-1) l = true) : ∀ y ∈ edges l, 0 ≤ y ∧ y ≤ size := by
  have h := good_each hg
  induction l with
  | nil => intro y hy; simp [edges] at hy
  | cons x r ih =>
    intro y hy
    have hx := h x (by simp)
    simp only [edges, List.mem_cons] at hy
    rcases hy with rfl | rfl | hy
    · omega
    · omega
    · exact ih (good_cons.1 (good_weak hg (by omega : (-1 : Int) ≤ -1)) |>.2.2.2 |> fun g => good_weak g (by omega)) (fun z hz => h z (by simp [hz])) y hy
theorem tmod_twice (x size : Int) (h : 1 ≤ size) : -size < x.tmod size ∧ x.tmod size < size ∧ (x.tmod size + size).tmod size = x % size := by
  have a := Int.tmod_lt_of_pos x (show 0 < size by omega)
  have b := Int.lt_tmod_of_pos x (show 0 < size by omega)
  refine ⟨b, a, ?_⟩
  rw [Int.tmod_eq_emod_of_nonneg (by omega), Int.add_emod_right, Int.tmod_def, Int.sub_mul_emod_self_left]
/-- numbers that lie at a -/
def Ints (w : World) (a : Option Addr) (zs : List Int) : Prop := zs = [] ∨ ∃ g, a = some ⟨g, 0, none⟩ ∧ ∀ i, i < zs.length → w.cell? ⟨g, i, none⟩ = some (.int .i64 (zs.getD i 0))
theorem OwnI.ints {w : World} {B : Nat} {v : Value} {l : List Int} (h : OwnI w B v l) : ∃ a cap, v = .slice a l.length cap ∧ Ints w a l := by
  rcases h.form with ⟨rfl, rfl⟩ | ⟨g, cap, rfl, _⟩
  · exact ⟨none, 0, rfl, .inl rfl⟩
  · exact ⟨_, cap, rfl, .inr ⟨g, rfl, fun i hi => h.cell i hi⟩⟩
theorem Ints.grow {w w' : World} {a : Option Addr} {zs : List Int} {row : Option Nat} (h : Ints w a zs) (hg : w.grownBy w' row) (hd : ∀ g, a = some ⟨g, 0, none⟩ → some g ≠ row) : Ints w' a zs := by
  rcases h with h | ⟨g, rfl, h⟩
  · exact .inl h
  · exact .inr ⟨g, rfl, fun i hi => hg.cell (h i hi) (hd g rfl)⟩
theorem Ints.below {w w' : World} {a : Option Addr} {zs : List Int} (h : Ints w a zs) (hb : Below w.heap.size w w') : Ints w' a zs := by
  rcases h with h | ⟨g, rfl, h⟩
  · exact .inl h
  · exact .inr ⟨g, rfl, fun i hi => (hb.cell (World.block_lt_of_cell? _ _ (h i hi))).trans (h i hi)⟩
theorem int_snoc (l : List Int) (k : Nat) (h : k < l.length) : l.take (k + 1) = l.take k ++ [l.getD k 0] := by
  rw [List.take_succ_eq_append_getElem h]; simp [List.getD, h]
theorem OwnI.base {w : World} {B C : Nat} {v : Value} {l : List Int} (h : OwnI w B v l) (hC : C ≤ B) : OwnI w C v l := by
  refine ⟨h.1, ?_⟩
  rcases h.2 with h0 | ⟨g, cap, cur, h1, h2, h3⟩
  · exact .inl h0
  · exact .inr ⟨g, cap, cur, h1, by omega, h3⟩
set_option maxRecDepth 20000 in
set_option maxHeartbeats 1000000 in
theorem sedges_any (size n : Int) (a : Option Addr) (cap : Nat) (l : List Sp) (w : World) (hr : Sps w a l) (hk : chk size l = 0) (n1 : 0 ≤ n) (n2 : n ≤ 549755813888) :
    Calls Try.prog 80 #[.agg #[.int .i64 size, .slice a l.length cap], .int .i64 n] w fun e w' => (∃ v, e = .returned v ∧ OwnI w' w.heap.size v (sedges size n (edges l))) ∧ Below w.heap.size w w' := by
  obtain ⟨i0, hi, hz0, hz1, hz2⟩ := info_parts infoInt
  have Hi := hid hi
  have Hz0 := hid hz0
  have Hz1 := hid hz1
  have Hz2 := hid hz2
  obtain ⟨s1, s2, s3, s4⟩ := chk_zero hk
  have HG := hid (edges_bd s4)
  have HR := hid hr
  clear hi hz0 hz1 hz2 hk hr s4
  go_enter Try.func80, Try.ntmps80
  go_wp2_with fail
  have hb0 : Below w.heap.size w (((w.alloc (.cells #[.int .i64 size, .slice a l.length cap] 25)).alloc (.cells #[.int .i64 0] 3)).alloc (.cells #[.slice a l.length cap] 23)) := by go_grown
  have c0 : (((w.alloc (.cells #[.int .i64 size, .slice a l.length cap] 25)).alloc (.cells #[.int .i64 0] 3)).alloc (.cells #[.slice a l.length cap] 23)).cell? ⟨w.heap.size, 0, none⟩ = some (.int .i64 size) := (World.cell?_alloc_lt _ _ _ (by simp; omega)).trans ((World.cell?_alloc_lt _ _ _ (by simp)).trans (World.cell?_alloc_at _ _ _ _ rfl))
  have ho0 : OwnI (((w.alloc (.cells #[.int .i64 size, .slice a l.length cap] 25)).alloc (.cells #[.int .i64 0] 3)).alloc (.cells #[.slice a l.length cap] 23)) (w.heap.size + 1) (.slice (some ⟨w.heap.size + 1, 0, none⟩) 1 1) (sedges size n []) := by
    have := World.ownsRow_lit (base := w.heap.size + 1) (e := 3) (size := 1) (w.alloc (.cells #[.int .i64 size, .slice a l.length cap] 25)) #[.int .i64 0] 1 (by simp) (by unfold maxLen; omega) rfl
    have := World.ownsRow.alloc this (.cells #[.slice a l.length cap] 23)
    simpa [OwnI, sedges] using this
  have hl0 : Lists (((w.alloc (.cells #[.int .i64 size, .slice a l.length cap] 25)).alloc (.cells #[.int .i64 0] 3)).alloc (.cells #[.slice a l.length cap] 23)) (w.heap.size + 1 + 1) [(a, cap, l)] := by
    intro i x hx
    match i, hx with
    | 0, hx => simp at hx; subst hx; exact ⟨World.cell?_alloc_at _ _ _ _ (by simp), HR.out.below hb0 (Nat.le_refl _)⟩
    | i + 1, hx => simp at hx
  have hsz0 : (((w.alloc (.cells #[.int .i64 size, .slice a l.length cap] 25)).alloc (.cells #[.int .i64 0] 3)).alloc (.cells #[.slice a l.length cap] 23)).heap.size = w.heap.size + 3 := by simp
  generalize ((w.alloc (.cells #[.int .i64 size, .slice a l.length cap] 25)).alloc (.cells #[.int .i64 0] 3)).alloc (.cells #[.slice a l.length cap] 23) = V at *
  have hE := edgesOf_any (w.heap.size + 1 + 1) 1 [(a, cap, l)] V hl0 (by simp [allOf]; omega) (by simp)
  rw [show allOf [(a, cap, l)] = l by simp [allOf]] at hE
  simp only [List.length_singleton] at hE
  refine hE.mono ?_
  clear hE
  rintro e w1 ⟨⟨v1, rfl, ho1⟩, b1⟩
  obtain ⟨a1, d1, rfl, hi1⟩ := ho1.ints
  have hdis : ∀ g, a1 = some ⟨g, 0, none⟩ → V.heap.size ≤ g ∧ g < w1.heap.size := by
    intro g hg
    rcases ho1.form with ⟨e, _⟩ | ⟨g', cp, e, h1, h2, _⟩
    · simp only [Value.slice.injEq] at e; rw [hg] at e; simp at e
    · simp only [Value.slice.injEq] at e; rw [hg] at e; simp at e; omega
  have c1 := (b1.cell (World.block_lt_of_cell? _ _ c0)).trans c0
  have HC1 := hid c1
  have HO1 := hid (OwnI.below ho0 b1 (Nat.le_refl _))
  have HI1 := hid hi1
  have HD1 := hid hdis
  have HB1 := hid (bel_of hb0 b1)
  have hlen : (edges l).length ≤ 400 := by rw [edges_length]; omega
  have hs1 : w.heap.size + 3 ≤ w1.heap.size := by have := b1.size; omega
  clear hb0 c0 ho0 hl0 b1 ho1 hi1 hdis
  generalize hzs : edges l = zs at *
  have HZ := hid hzs
  clear hzs
  go_wp2_with fail
  clear c1
  go_loopw [5, 14] (fun v5 v14 wr => ∃ k : Nat, k ≤ zs.length ∧ v14 = .int .i64 k ∧ OwnI wr (w.heap.size + 1) v5 (sedges size n (zs.take k)) ∧ Ints wr a1 zs ∧ (∀ g, a1 = some ⟨g, 0, none⟩ → some g ≠ v5.ownBlock ∧ g < wr.heap.size) ∧ w.heap.size + 3 ≤ wr.heap.size ∧ wr.cell? ⟨w.heap.size, 0, none⟩ = some (.int .i64 size) ∧ Below w.heap.size w wr) (fun _ v14 _ => zs.length - (intOf v14).toNat)
  case atStart => exact ⟨0, by omega, rfl, by simpa using HO1.out, HI1.out, fun g hg => ⟨by have := (HD1.out g hg).1; simp [Value.ownBlock]; omega, (HD1.out g hg).2⟩, hs1, HC1.out, HB1.out⟩
  case round =>
    obtain ⟨k, hk, rfl, ho, hi, hdis, hsz, hc, hb⟩ := hrel
    have HO := hid ho
    have HIn := hid hi
    have HD := hid hdis
    have HB := hid hb
    obtain ⟨p5, n5, q5, hv5⟩ := ho.slice
    subst hv5
    have hln := sedges_len size n (zs.take k)
    rw [List.length_take] at hln
    by_cases hlt : k < zs.length
    · rcases hi with rfl | ⟨g1, rfl, hcl⟩
      · simp at hlt
      have d1 := hcl k hlt
      have hne1 := (hdis g1 rfl).1
      have hne0 : some w.heap.size ≠ Value.ownBlock (.slice p5 n5 q5) := by
        intro e
        have := (World.ownsRow.lt HO.out _ e.symm).1
        omega
      have hge := HG.out (zs.getD k 0) (by simp [List.getD, hlt])
      have hd := int_snoc zs k hlt
      generalize zs.getD k 0 = e at d1 hge hd
      obtain ⟨e1, e2⟩ := hge
      have HE := hid (show sedges size n (zs.take (k + 1)) = sedges size n (zs.take k) ++ [e % size, (e - n) % size] by rw [hd, sedges_snoc])
      clear hd ho hdis hb hcl
      have k2 : (sedges size n (zs.take k)).length + 2 ≤ maxLen := by unfold maxLen; omega
      have k3 : ((sedges size n (zs.take k)).length + 2) * 8 ≤ 140737488355328 := by omega
      clear hln
      generalize sedges size n (zs.take k) = Z at *
      obtain ⟨m1, m2, m3⟩ := tmod_twice (e - n) size s1
      have m4 : e.tmod size = e % size := Int.tmod_eq_emod_of_nonneg e1
      have m5 := Int.emod_nonneg e (show size ≠ 0 by omega)
      have m6 := Int.emod_lt_of_pos e (show 0 < size by omega)
      have m7 := Int.emod_nonneg (e - n) (show size ≠ 0 by omega)
      have m8 := Int.emod_lt_of_pos (e - n) (show 0 < size by omega)
      have w1 : IntKind.i64.wrap (e - n) = e - n := IntWalk.i64_in _ (by omega)
      have hz1 : ¬ size = 0 := by omega
      have hz2 : (size == 0) = false := by simp [hz1]
      generalize e % size = X at *
      generalize (e - n) % size = Y at *
      generalize hR : (e - n).tmod size = R at *
      have w2 : IntKind.i64.wrap (R + size) = R + size := IntWalk.i64_in _ (by omega)
      have w3 : IntKind.i64.wrap X = X := IntWalk.i64_in _ (by omega)
      have w4 : IntKind.i64.wrap Y = Y := IntWalk.i64_in _ (by omega)
      have w5 : IntKind.i64.wrap R = R := IntWalk.i64_in _ (by omega)
      have hg1 : g1 < wr.heap.size := World.block_lt_of_cell? _ _ d1
      go_wp2_with fail
      have k1 : ∀ u ∈ ([.int .i64 X, .int .i64 Y] : List Value), u.oneCell' = true := by intro u hu; simp at hu; rcases hu with rfl | rfl <;> rfl
      have hown3 := World.ownsRow.drew (World.ownsRow.alloc HO.out (.cells #[.int .i64 X, .int .i64 Y] 3))
      have hnews : ∀ (j : Nat) (u : Value), ([.int .i64 X, .int .i64 Y] : List Value)[j]? = some u → (wr.alloc (.cells #[.int .i64 X, .int .i64 Y] 3)).drew.cell? ((⟨wr.heap.size, 0, none⟩ : Addr).add j) = some u := World.news_of_block (heap_alloc_new wr (.cells #[.int .i64 X, .int .i64 Y] 3))
      have nc : (wr.alloc (.cells #[.int .i64 X, .int .i64 Y] 3)).drew.cell? ⟨w.heap.size, 0, none⟩ = some (.int .i64 size) := Lib.cell?_alloc_some _ hc
      have hs4 : (wr.alloc (.cells #[.int .i64 X, .int .i64 Y] 3)).drew.heap.size = wr.heap.size + 1 := by simp
      have hs5 : w.heap.size + 1 ≤ (wr.alloc (.cells #[.int .i64 X, .int .i64 Y] 3)).drew.heap.size := by rw [hs4]; omega
      go_region_held3 (fun W => W.cell? ⟨w.heap.size, 0, none⟩ = some (.int .i64 size)) (go_keep)
        (first | (refine step_append_lies _ (by rfl) _ _ _ (by rfl) (w.heap.size + 1) 3 i0 (.int .i64 0) 1 8 Try.underlying26 Hi.out Hz0.out Hz1.out Hz2.out rfl (by decide) _ Z.length (Z.map (Value.int .i64)) (by rfl) hown3 ⟨wr.heap.size, 0, none⟩ 2 2 [.int .i64 X, .int .i64 Y] (by rfl) (by simp) hnews k1 (by decide) k2 k3 hs5 (wr.heap.size + 1) hs4 ?_
                  intro g4 cp w7 hown hgrow hat hlt7
                  have y0 := hgrow.cell (a := ⟨w.heap.size, 0, none⟩) nc hne0))
      have HO7 : Hid (OwnI w7 (w.heap.size + 1) (.slice (some ⟨g4, 0, none⟩) (Z.length + 2) cp) (Z ++ [X, Y])) := by
        show w7.ownsRow _ _ _ _ _ _
        simpa using hown
      have HB7 := hid (HB.out.trans (Below.grown (Below.drew (Below.alloc (Below.refl w.heap.size wr) (by omega) (.cells #[.int .i64 X, .int .i64 Y] 3))) hgrow (by rw [hs4]; omega) (fun k hk => by have := (World.ownsRow.lt HO.out k hk).1; omega)))
      have HI7 := hid ((HIn.out.below (Below.drew (Below.alloc (Below.refl wr.heap.size wr) (Nat.le_refl _) (.cells #[.int .i64 X, .int .i64 Y] 3)))).grow hgrow (fun g hg => (HD.out g hg).1))
      have hs7 := hgrow.size
      rw [hs4] at hs7
      have HD7 : Hid (∀ g, some (⟨g1, 0, none⟩ : Addr) = some ⟨g, 0, none⟩ → some g ≠ Value.ownBlock (.slice (some ⟨g4, 0, none⟩) (Z.length + 2) cp) ∧ g < w7.heap.size) := by
        intro g hg
        simp at hg
        subst hg
        refine ⟨?_, by omega⟩
        rcases hat with h | h
        · rw [h] at hne1
          simpa [Value.ownBlock] using hne1
        · simp [Value.ownBlock]; omega
      clear hown hgrow hat hnews hown3 nc
      go_wp2_with fail
      go_roundw
      case rel => exact ⟨k + 1, by omega, by go_num, by rw [HE.out]; exact HO7.out, HI7.out, HD7.out, by omega, y0, HB7.out⟩
      case measure => simp [intOf]; omega
    · have he : zs.take k = zs := List.take_of_length_le (by omega)
      rw [he] at HO
      clear ho hb hi
      go_wp2_with fail
      go_ret
      refine ⟨⟨_, rfl, ?_⟩, HB.out⟩
      rw [HZ.out]
      exact HO.out.base (show w.heap.size ≤ w.heap.size + 1 by omega)
end SpanC
end Go.Proofs.Ytpnahhpkaegeeaa
