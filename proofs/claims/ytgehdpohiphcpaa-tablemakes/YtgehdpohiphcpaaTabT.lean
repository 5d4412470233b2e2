/- Contracts of package table: Times. -/
import Derived.Test.YtgehdpohiphcpaaSpanF
import Derived.Test.YtgehdpohiphcpaaTabC
import Derived.Deep.RegionHeld3
import Derived.Deep.AppendLies
set_option linter.unusedVariables false
namespace Go.Proofs.Ytgehdpohiphcpaa
open Go.RowKit
open SpanM SpanC TabM
namespace TabC
theorem below_drew_al {wr w2 : World} {o : Obj} (h : Below (wr.alloc o).drew.heap.size (wr.alloc o).drew w2) : Below (wr.heap.size + 1) (wr.alloc o) w2 := by
  have h' : Below (wr.alloc o).heap.size (wr.alloc o) w2 := ⟨h.os, h.tape, h.output, h.size, h.block⟩
  simpa using h'
theorem own_al {wr w2 : World} {o : Obj} {B : Nat} {v : Value} {l : List Sp} (h : Own wr B v l) (hb : Below (wr.heap.size + 1) (wr.alloc o) w2) : Hid (Own w2 B v l) :=
  (show Own (wr.alloc o) B v l from World.ownsRow.alloc h o).below hb (by simp)
theorem bel_al1 {wr w2 : World} {o : Obj} {B : Nat} (hb : Below (wr.heap.size + 1) (wr.alloc o) w2) (hB : B ≤ wr.heap.size) : Hid (Below B wr w2) :=
  (Below.alloc (Below.refl _ _) hB o).trans (hb.mono (by omega))
theorem size_al {wr w2 : World} {o : Obj} (hb : Below (wr.heap.size + 1) (wr.alloc o) w2) : wr.heap.size + 1 ≤ w2.heap.size := by have := hb.size; simpa using this
/-- the boxes of a call of Times: the table, and what is told -/
structure TBox (w W : World) (size : Int) (v : Value) : Prop where
  sz : w.heap.size + 2 ≤ W.heap.size
  b0 : W.cell? ⟨w.heap.size, 0, none⟩ = some (.int .i64 size)
  b1 : W.cell? ⟨w.heap.size, 1, none⟩ = some v
  rb : RBox w W (w.heap.size + 1)
theorem TBox.start (w : World) (size : Int) (v : Value) : TBox w ((w.alloc (.cells #[.int .i64 size, v] 24)).alloc (.cells #[.int .i64 0, .slice none 0 0] 30)) size v where
  sz := by simp
  b0 := (World.cell?_alloc_lt _ _ _ (by simp)).trans (World.cell?_alloc_at _ _ _ _ rfl)
  b1 := (World.cell?_alloc_lt _ _ _ (by simp)).trans (World.cell?_alloc_at _ _ _ _ rfl)
  rb := {
    sz := by simp
    r0 := World.cell?_alloc_at _ _ _ _ (by simp)
    r1 := World.cell?_alloc_at _ _ _ _ (by simp)
    f0 := World.frozen?_alloc_at _ _ _ _ (by simp)
    f1 := World.frozen?_alloc_at _ _ _ _ (by simp)
    be := by go_grown }
theorem TBox.step {w W W' : World} {size : Int} {v : Value} (h : TBox w W size v) (hb : Below (w.heap.size + 2) W W') : TBox w W' size v where
  sz := Nat.le_trans h.sz hb.size
  b0 := (hb.cell (by simp)).trans h.b0
  b1 := (hb.cell (by simp)).trans h.b1
  rb := h.rb.step hb (by omega)
set_option maxHeartbeats 400000 in
theorem times_err (size o : Int) (a : Option Addr) (cap : Nat) (l : List Win) (w : World) (hr : Wns w a l) (hk : tchk size l ≠ 0) :
    Calls Try.prog 12 #[.agg #[.int .i64 size, .slice a l.length cap], .int .i64 o] w fun e w' => e = .returned (.tuple #[.agg #[.int .i64 0, .slice none 0 0], .int .i64 (tchk size l)]) ∧ Below w.heap.size w w' := by
  have hc := fun W (h : Below w.heap.size w W) => check_any size a cap l W (hr.below h (Nat.le_refl _))
  have hne : (tchk size l != 0) = true := by simp [hk]
  clear hr hk
  generalize tchk size l = c at hc hne ⊢
  have HC := hid hc
  clear hc
  go_enter Try.func12, Try.ntmps12
  go_wp2_with fail
  refine (HC.out _ (by go_grown)).mono ?_
  rintro e w1 ⟨rfl, b1⟩
  have TB := hid ((TBox.start w size (.slice a l.length cap)).step (b1.mono (by simp)))
  obtain ⟨x1, x2, x3, x4, x5, x6, x7, x8, x9⟩ := TB.out
  clear b1
  have z0 := TB.out.rb.s0
  have z1 := TB.out.rb.s1
  go_wp2_with fail
  exact bodyPost_ret (v := .tuple #[.agg #[.int .i64 0, .slice none 0 0], .int .i64 c]) (by simp [results, Try.results12, go_sem, z0, z1]) rfl ⟨rfl, by go_grown⟩
set_option maxHeartbeats 400000 in
theorem times_arg (size o : Int) (a : Option Addr) (cap : Nat) (l : List Win) (w : World) (hr : Wns w a l) (hk : tchk size l = 0) (ho : ¬ (0 ≤ o ∧ o ≤ 15)) :
    Calls Try.prog 12 #[.agg #[.int .i64 size, .slice a l.length cap], .int .i64 o] w fun e w' => e = .returned (.tuple #[.agg #[.int .i64 0, .slice none 0 0], .int .i64 1]) ∧ Below w.heap.size w w' := by
  have HC := hid (fun W (h : Below w.heap.size w W) => check_ok size a cap l W (hr.below h (Nat.le_refl _)) hk)
  clear hr hk
  go_enter Try.func12, Try.ntmps12
  go_wp2_with fail
  refine (HC.out _ (by go_grown)).mono ?_
  rintro e w1 ⟨rfl, b1⟩
  have TB := hid ((TBox.start w size (.slice a l.length cap)).step (b1.mono (by simp)))
  obtain ⟨x1, x2, x3, x4, x5, x6, x7, x8, x9⟩ := TB.out
  clear b1
  have z0 := TB.out.rb.s0
  have z1 := TB.out.rb.s1
  go_wp2_with (first | (go_at_call 41; go_call (isOwner_no _ _) as e w' ⟨rfl, rfl⟩))
  exact bodyPost_ret (v := .tuple #[.agg #[.int .i64 0, .slice none 0 0], .int .i64 1]) (by simp [results, Try.results12, go_sem, z0, z1]) rfl ⟨rfl, by go_grown⟩
theorem spo_fit {size o : Int} {l : List Win} (h : wgood size 0 l = true) : ofG size (spo o l) = 0 := by
  unfold ofG
  rw [if_pos]
  rw [List.all_eq_true]
  intro y hy
  obtain ⟨x, hx, _, rfl⟩ := spo_mem hy
  have := wgood_each h x hx
  unfold wfit at this
  exact (fit_iff _ _).2 ⟨by simp only; omega, by simp only; omega, by simp only; omega⟩
set_option maxRecDepth 20000 in
set_option maxHeartbeats 1600000 in
theorem times_ok (size o : Int) (a : Option Addr) (cap : Nat) (l : List Win) (w : World) (hr : Wns w a l) (hk : tchk size l = 0) (ho1 : 0 ≤ o) (ho2 : o ≤ 15) :
    Calls Try.prog 12 #[.agg #[.int .i64 size, .slice a l.length cap], .int .i64 o] w fun e w' => OfTold size (spo o l) w.heap.size e w' ∧ Below w.heap.size w w' := by
  have HC := hid (fun W (h : Below w.heap.size w W) => check_ok size a cap l W (hr.below h (Nat.le_refl _)) hk)
  obtain ⟨s1, s2, s3, s4⟩ := tchk_zero hk
  have HG := hid (wgood_each s4)
  have HFit := hid (spo_fit (o := o) s4)
  have HR := hid hr
  clear hr hk s4
  obtain ⟨i0, hi, hz0, hz1, hz2⟩ := info_parts infoSp
  have Hi := hid hi
  have Hz0 := hid hz0
  have Hz1 := hid hz1
  have Hz2 := hid hz2
  clear hi hz0 hz1 hz2
  go_enter Try.func12, Try.ntmps12
  go_wp2_with fail
  refine (HC.out _ (by go_grown)).mono ?_
  rintro e w1 ⟨rfl, b1⟩
  have TB := hid ((TBox.start w size (.slice a l.length cap)).step (b1.mono (by simp)))
  obtain ⟨x1, x2, x3, x4, x5, x6, x7, x8, x9⟩ := TB.out
  clear b1
  go_wp2_with (first | (go_at_call 41; go_call (isOwner_yes _ _) as e w' ⟨rfl, rfl⟩))
  clear x1 x2 x3 x4 x5 x6 x7 x8 x9
  go_loopw [7, 23] (fun v7 v23 wr => ∃ k : Nat, k ≤ l.length ∧ v23 = .int .i64 k ∧ Own wr (w.heap.size + 2) v7 (spo o (l.take k)) ∧ TBox w wr size (.slice a l.length cap)) (fun _ v23 _ => l.length - (intOf v23).toNat)
  case atStart => exact ⟨0, by omega, rfl, Own.nil _ _, TB.out⟩
  case round =>
    obtain ⟨k, hk, rfl, ho, tb⟩ := hrel
    have HO := hid ho
    have TB := hid tb
    have hsz := tb.sz
    have hlen : (spo o (l.take k)).length ≤ 200 := by
      have := spo_len o (l.take k)
      rw [List.length_take] at this
      omega
    obtain ⟨p3, n3, c3, hv3⟩ := ho.slice
    subst hv3
    by_cases hlt : k < l.length
    · obtain ⟨b, off, rfl, hbw, d1, d2, d3⟩ := (HR.out.below tb.rb.be (Nat.le_refl _)).at k hlt
      have hge := HG.out (l.getD k z3) (by simp [List.getD, hlt])
      have hd := take_snoc z3 l k hlt
      generalize l.getD k z3 = z at d1 d2 d3 hd hge
      obtain ⟨f, n, q⟩ := z
      simp only [wfit] at d1 d2 d3 hge
      obtain ⟨g1, g2, g3, g4, g5⟩ := hge
      clear ho tb
      by_cases hq : q = o
      · subst hq
        have HE : Hid (spo q (l.take (k + 1)) = spo q (l.take k) ++ [(f, f + n)]) := by
          show _ = _
          rw [hd, spo_append]; simp [spo]
        clear hd
        have hbt : (q == q) = true := by simp
        generalize spo q (l.take k) = Z at *
        have hfr : some wr.heap.size ≠ Value.ownBlock (.slice p3 n3 c3) := by
          intro e
          have := (World.ownsRow.lt HO.out _ e.symm).2
          omega
        go_wp2_with fail
        have k1 : ∀ u ∈ ([.int .i64 f, .int .i64 (f + n)] : List Value), u.oneCell' = true := by intro u hu; simp at hu; rcases hu with rfl | rfl <;> rfl
        have k2 : Z.length + 1 ≤ maxLen := by unfold maxLen; omega
        have k3 : (Z.length + 1) * 16 ≤ 140737488355328 := by omega
        have hsz1 : w.heap.size + 2 ≤ wr.heap.size := hsz
        go_region_held3 (fun W => W.cell? ⟨wr.heap.size, 0, none⟩ = some (.int .i64 f) ∧ W.cell? ⟨wr.heap.size, 1, none⟩ = some (.int .i64 n) ∧ W.cell? ⟨wr.heap.size, 2, none⟩ = some (.int .i64 q)) (go_keep)
          (first
            | (go_at_call 40
               refine (endOf_any _ _ _ _ (by omega) (by omega)).mono ?_
               rintro e w2 ⟨rfl, hb2⟩
               have hb3 := below_drew_al hb2
               have e0 : w2.cell? ⟨wr.heap.size, 0, none⟩ = some (.int .i64 f) := boxc hb3 0
               have e1 : w2.cell? ⟨wr.heap.size, 1, none⟩ = some (.int .i64 n) := boxc hb3 1
               have e2 : w2.cell? ⟨wr.heap.size, 2, none⟩ = some (.int .i64 q) := boxc hb3 2
               have HO2 := own_al HO.out hb3
               have HB2 := bel_al1 hb3 hsz1
               have hs2 := size_al hb3)
            | (refine step_append_lies _ (by rfl) _ _ _ (by rfl) (w.heap.size + 2) 53 i0 (.agg #[.int .i64 0, .int .i64 0]) 2 16 Try.underlying28 Hi.out Hz0.out Hz1.out Hz2.out rfl (by decide) _ Z.length (flat Z) (by rfl) (World.ownsRow.alloc HO2.out _) ⟨w2.heap.size, 0, none⟩ 1 1 [.int .i64 f, .int .i64 (f + n)] (by rfl) (by simp) (World.news_of_block (heap_alloc_new w2 _)) k1 (by decide) k2 k3 (by rw [World.size_alloc]; omega) (w2.heap.size + 1) (World.size_alloc _ _) ?_
               intro g cp w4 hown hgrow hat hlt
               have e0 := hgrow.cell (a := ⟨wr.heap.size, 0, none⟩) (Lib.cell?_alloc_some _ e0) hfr
               have e1 := hgrow.cell (a := ⟨wr.heap.size, 1, none⟩) (Lib.cell?_alloc_some _ e1) hfr
               have e2 := hgrow.cell (a := ⟨wr.heap.size, 2, none⟩) (Lib.cell?_alloc_some _ e2) hfr))
        have HO4 : Hid (Own w4 (w.heap.size + 2) (.slice (some ⟨g, 0, none⟩) (Z.length + 1) cp) (Z ++ [(f, f + n)])) := by
          show w4.ownsRow _ _ _ _ _ _
          rw [flat_append, List.length_append]
          exact hown
        have HB4 := hid (HB2.out.trans (Below.grown (Below.alloc (Below.refl (w.heap.size + 2) w2) (by omega) _) hgrow (by simp; omega) (fun k hk => (World.ownsRow.lt HO2.out k hk).1)))
        clear hown hgrow hat e0 e1 e2
        go_wp2_with fail
        go_roundw
        case rel => exact ⟨k + 1, by omega, by go_num, by rw [HE.out]; exact HO4.out, TB.out.step HB4.out⟩
        case measure => simp [intOf]; omega
      · have HE : Hid (spo o (l.take (k + 1)) = spo o (l.take k)) := by
          show _ = _
          rw [hd, spo_append]; simp [spo, hq]
        clear hd
        have hbt : (q == o) = false := by simp [hq]
        go_wp2_with fail
        go_roundw
        case rel => exact ⟨k + 1, by omega, by go_num, by rw [HE.out]; exact World.ownsRow.alloc HO.out _, TB.out.step (Below.alloc (Below.refl _ _) (by omega) _)⟩
        case measure => simp [intOf]; omega
    · have he : l.take k = l := List.take_of_length_le (by omega)
      rw [he] at HO hlen
      obtain ⟨a2, c2, hv, hs, _⟩ := HO.out.sps
      simp only [Value.slice.injEq] at hv
      obtain ⟨rfl, rfl, rfl⟩ := hv
      have HOF := hid (fun W (hb : Below wr.heap.size wr W) => of_list size p3 c3 (spo o l) W s1 s2 (by omega) (hs.below hb (Nat.le_refl _)))
      obtain ⟨x1, x2, x3, x4, x5, x6, x7, x8, x9⟩ := TB.out
      clear ho tb hs he
      go_wp2_with fail
      refine (HOF.out _ (Below.refl _ _)).mono ?_
      rintro e w2 ⟨h | h, hb2⟩
      · obtain ⟨_, v, r, rfl, hor, hgr, hmr, hlr⟩ := h
        obtain ⟨a4, c4, rfl, _⟩ := hor.sps
        have TB2 := hid (TB.out.step (hb2.mono (by omega)))
        have HOR := hid (hor.base (show w.heap.size + 2 ≤ wr.heap.size by omega))
        have HGR := hid hgr
        have HMR := hid hmr
        clear hor hgr hmr hb2 x1 x2 x3 x4 x5 x6 x7 x8 x9
        obtain ⟨x1, x2, x3, x4, x5, x6, x7, x8, x9⟩ := TB2.out
        have z0 := TB2.out.rb.s0
        have z1 := TB2.out.rb.s1
        go_wp2_with fail
        refine bodyPost_ret (v := .tuple #[.agg #[.int .i64 size, .slice a4 r.length c4], .int .i64 0]) (by simp [results, Try.results12, go_sem, z0, z1]) rfl ⟨⟨_, r, rfl, Own.base (ownsRow_setCell_below (ownsRow_setCell_below HOR.out (by simp) _) (by simp) _) (by omega), HGR.out, HMR.out, hlr⟩, by go_grown⟩
      · exact absurd (h.1.symm.trans HFit.out) (by decide)
/-- what Times tells -/
def timE (size o : Int) (l : List Win) : Int := if tchk size l = 0 then (if 0 ≤ o ∧ o ≤ 15 then 0 else 1) else tchk size l
theorem timE_zero {size o : Int} {l : List Win} (h : timE size o l = 0) : tchk size l = 0 ∧ 0 ≤ o ∧ o ≤ 15 := by
  unfold timE at h
  split at h
  · split at h
    · rename_i h1 h2; exact ⟨h1, h2.1, h2.2⟩
    · simp at h
  · rename_i h1; exact absurd h h1
theorem times_any (size o : Int) (a : Option Addr) (cap : Nat) (l : List Win) (w : World) (hr : Wns w a l) :
    Calls Try.prog 12 #[.agg #[.int .i64 size, .slice a l.length cap], .int .i64 o] w fun e w' => ((timE size o l = 0 ∧ OfTold size (spo o l) w.heap.size e w') ∨ (timE size o l ≠ 0 ∧ e = .returned (.tuple #[.agg #[.int .i64 0, .slice none 0 0], .int .i64 (timE size o l)]))) ∧ Below w.heap.size w w' := by
  unfold timE
  by_cases h : tchk size l = 0
  · by_cases h2 : 0 ≤ o ∧ o ≤ 15
    · rw [if_pos h, if_pos h2]
      exact (times_ok size o a cap l w hr h h2.1 h2.2).mono fun e w' ⟨h3, h4⟩ => ⟨.inl ⟨rfl, h3⟩, h4⟩
    · rw [if_pos h, if_neg h2]
      exact (times_arg size o a cap l w hr h h2).mono fun e w' ⟨h3, h4⟩ => ⟨.inr ⟨by decide, h3⟩, h4⟩
  · rw [if_neg h]
    exact (times_err size o a cap l w hr h).mono fun e w' ⟨h3, h4⟩ => ⟨.inr ⟨h, h3⟩, h4⟩
end TabC
end Go.Proofs.Ytgehdpohiphcpaa
