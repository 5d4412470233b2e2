/- Several texts, one behind the other: SupN2. -/
import Derived.Test.YtpnahhpkaegeeaaKSupN
/- Contract of package dutyref: SupplyBounds. -/
set_option linter.unusedVariables false
namespace Go.Proofs.Ytpnahhpkaegeeaa
open Go.RowKit Go.Shelf
open SpanM SupM
namespace SpanC
def zmin (f : Int → Int) (a : Int) (l : List Int) : Int := l.foldl (fun a x => min a (f x)) a
def zmax (f : Int → Int) (a : Int) (l : List Int) : Int := l.foldl (fun a x => max a (f x)) a
theorem zmin_snoc (f : Int → Int) (a : Int) (l : List Int) (x : Int) : zmin f a (l ++ [x]) = min (zmin f a l) (f x) := by simp [zmin]
theorem zmax_snoc (f : Int → Int) (a : Int) (l : List Int) (x : Int) : zmax f a (l ++ [x]) = max (zmax f a l) (f x) := by simp [zmax]
theorem zmin_le (f : Int → Int) (a : Int) (l : List Int) : zmin f a l ≤ a ∧ (∀ x ∈ l, zmin f a l ≤ f x) ∧ (zmin f a l = a ∨ ∃ x ∈ l, zmin f a l = f x) := by
  induction l generalizing a with
  | nil => simp [zmin]
  | cons y r ih =>
    obtain ⟨h1, h2, h3⟩ := ih (min a (f y))
    have e : zmin f a (y :: r) = zmin f (min a (f y)) r := rfl
    rw [e]
    refine ⟨by omega, fun x hx => ?_, ?_⟩
    · rcases List.mem_cons.1 hx with rfl | hx
      · omega
      · exact h2 x hx
    · rcases h3 with h3 | ⟨x, hx, h3⟩
      · by_cases c : a ≤ f y
        · left; omega
        · right; exact ⟨y, by simp, by omega⟩
      · right; exact ⟨x, by simp [hx], h3⟩
theorem zmax_le (f : Int → Int) (a : Int) (l : List Int) : a ≤ zmax f a l ∧ (∀ x ∈ l, f x ≤ zmax f a l) ∧ (zmax f a l = a ∨ ∃ x ∈ l, zmax f a l = f x) := by
  induction l generalizing a with
  | nil => simp [zmax]
  | cons y r ih =>
    obtain ⟨h1, h2, h3⟩ := ih (max a (f y))
    have e : zmax f a (y :: r) = zmax f (max a (f y)) r := rfl
    rw [e]
    refine ⟨by omega, fun x hx => ?_, ?_⟩
    · rcases List.mem_cons.1 hx with rfl | hx
      · omega
      · exact h2 x hx
    · rcases h3 with h3 | ⟨x, hx, h3⟩
      · by_cases c : f y ≤ a
        · left; omega
        · right; exact ⟨y, by simp, by omega⟩
      · right; exact ⟨x, by simp [hx], h3⟩
theorem sedges_mem {size n : Int} {l : List Sp} (hs : 1 ≤ size) : (∀ t ∈ sedges size n (edges l), 0 ≤ t ∧ t < size) ∧ 0 ∈ sedges size n (edges l) ∧ ∀ x ∈ l, x.1 % size ∈ sedges size n (edges l) ∧ x.2 % size ∈ sedges size n (edges l) := by
  refine ⟨fun t ht => ?_, by simp [sedges], fun x hx => ?_⟩
  · simp only [sedges, List.mem_cons, List.mem_flatMap] at ht
    rcases ht with rfl | ⟨e, _, h⟩
    · omega
    · have m5 := Int.emod_nonneg e (show size ≠ 0 by omega)
      have m6 := Int.emod_lt_of_pos e (show 0 < size by omega)
      have m7 := Int.emod_nonneg (e - n) (show size ≠ 0 by omega)
      have m8 := Int.emod_lt_of_pos (e - n) (show 0 < size by omega)
      simp at h
      rcases h with rfl | rfl <;> omega
  · obtain ⟨h1, h2⟩ := mem_edges hx
    constructor
    · simp only [sedges, List.mem_cons, List.mem_flatMap]
      exact .inr ⟨_, h1, by simp⟩
    · simp only [sedges, List.mem_cons, List.mem_flatMap]
      exact .inr ⟨_, h2, by simp⟩
theorem zmin_P {size n : Int} {l : List Sp} (hs : 1 ≤ size) (hg : good size (-1) l = true) (hn : 0 ≤ n) : LeastP size l n (zmin (D size l n) n (sedges size n (edges l))) := by
  obtain ⟨h1, h2, h3⟩ := zmin_le (D size l n) n (sedges size n (edges l))
  obtain ⟨m1, m2, m3⟩ := sedges_mem (n := n) (l := l) hs
  refine ⟨fun t ht => ?_, ?_⟩
  · rcases least_ex hs hg hn t with h | ⟨x, hx, h⟩
    · have := h2 0 m2; omega
    · have := h2 _ (m3 x hx).2
      rw [D_mod hs] at this
      omega
  · rcases h3 with h3 | ⟨x, hx, h3⟩
    · have a := h2 0 m2
      have b := (D_bd (l := l) hs hg hn (Int.le_refl 0)).2
      exact ⟨0, Int.le_refl _, by omega⟩
    · exact ⟨x, (m1 x hx).1, h3⟩
theorem zmax_P {size n : Int} {l : List Sp} (hs : 1 ≤ size) (hg : good size (-1) l = true) (hn : 0 ≤ n) : MostP size l n (zmax (D size l n) 0 (sedges size n (edges l))) := by
  obtain ⟨h1, h2, h3⟩ := zmax_le (D size l n) 0 (sedges size n (edges l))
  obtain ⟨m1, m2, m3⟩ := sedges_mem (n := n) (l := l) hs
  refine ⟨fun t ht => ?_, ?_⟩
  · by_cases hl : l = []
    · subst hl; rw [D_none]; omega
    · obtain ⟨x, hx, h⟩ := most_ex hs hg hn hl t
      have := h2 _ (m3 x hx).1
      rw [D_mod hs] at this
      omega
  · rcases h3 with h3 | ⟨x, hx, h3⟩
    · have a := h2 0 m2
      have b := (D_bd (l := l) hs hg hn (Int.le_refl 0)).1
      exact ⟨0, Int.le_refl _, by omega⟩
    · exact ⟨x, (m1 x hx).1, h3⟩
set_option maxHeartbeats 1000000 in
theorem rbounds_any (size n : Int) (a : Option Addr) (cap : Nat) (l : List Sp) (w : World) (hr : Sps w a l) (hk : chk size l = 0) (n1 : 0 ≤ n) (n2 : n ≤ 549755813888) :
    Calls Try.prog 60 #[.agg #[.int .i64 size, .slice a l.length cap], .int .i64 n] w fun e w' => e = .returned (.tuple #[.int .i64 (zmin (D size l n) n (sedges size n (edges l))), .int .i64 (zmax (D size l n) 0 (sedges size n (edges l)))]) ∧ Below w.heap.size w w' := by
  obtain ⟨s1, s2, s3, s4⟩ := chk_zero hk
  have HS := hid (fun W (h : Below w.heap.size w W) => sedges_any size n a cap l W (hr.below h (Nat.le_refl _)) hk n1 n2)
  have HC := hid (fun t (t1 : 0 ≤ t) (t2 : t ≤ 2199023255552) W (h : Below w.heap.size w W) => countOf_any size t a cap l W (hr.below h (Nat.le_refl _)) hk t1 t2)
  have HM := hid (sedges_mem (n := n) (l := l) s1).1
  have HG := hid s4
  clear hr hk s4
  have hzl : (sedges size n (edges l)).length ≤ 1000 := by rw [sedges_len, edges_length]; omega
  generalize hzs : sedges size n (edges l) = zs at *
  clear hzs
  go_enter Try.func60, Try.ntmps60
  go_wp2_with fail
  refine (HS.out _ (by go_grown)).mono ?_
  rintro e w1 ⟨⟨v1, rfl, ho1⟩, b1⟩
  obtain ⟨a1, d1, rfl, hi1⟩ := ho1.ints
  have HB1 : Hid (Below (w.heap.size + 1) (w.alloc (.cells #[.int .i64 size, .slice a l.length cap] 25)) w1) := box1 b1
  have HI1 := hid hi1
  clear b1 ho1 hi1
  go_wp2_with fail
  go_loopw [6, 7, 16] (fun v6 v7 v16 wr => ∃ k : Nat, k ≤ zs.length ∧ v16 = .int .i64 k ∧ (∃ A M, v6 = .int .i64 A ∧ v7 = .int .i64 M ∧ Hid (zmin (D size l n) n (zs.take k) = A ∧ zmax (D size l n) 0 (zs.take k) = M)) ∧ Ints wr a1 zs ∧ Below (w.heap.size + 1) (w.alloc (.cells #[.int .i64 size, .slice a l.length cap] 25)) wr) (fun _ _ v16 _ => zs.length - (intOf v16).toNat)
  case atStart => exact ⟨0, by omega, rfl, ⟨_, _, rfl, rfl, ⟨by simp [zmin], by simp [zmax]⟩⟩, HI1.out, HB1.out⟩
  case round =>
    obtain ⟨k, hk, rfl, ⟨A, M, rfl, rfl, HAM⟩, hi, hb⟩ := hrel
    have HIn := hid hi
    have HB := hid hb
    by_cases hlt : k < zs.length
    · rcases hi with rfl | ⟨g1, rfl, hcl⟩
      · simp at hlt
      have d1 := hcl k hlt
      have hge := HM.out (zs.getD k 0) (by simp [List.getD, hlt])
      have hd := int_snoc zs k hlt
      generalize zs.getD k 0 = t at d1 hge hd
      obtain ⟨t1, t2⟩ := hge
      have HN := hid (show zmin (D size l n) n (zs.take (k + 1)) = min A (cb size l (t + n) - cb size l t) ∧ zmax (D size l n) 0 (zs.take (k + 1)) = max M (cb size l (t + n) - cb size l t) by
        rw [hd, zmin_snoc, zmax_snoc, HAM.out.1, HAM.out.2]; exact ⟨rfl, rfl⟩)
      obtain ⟨r1, r2⟩ := cb_pos s1 HG.out (show 0 ≤ t + n by omega)
      obtain ⟨r3, r4⟩ := cb_pos s1 HG.out t1
      have p0 := BelowOf.cell (show wr.cell? ⟨w.heap.size, 0, none⟩ = some (.int .i64 size) from boxc hb 0)
      have p1 := BelowOf.cell (show wr.cell? ⟨w.heap.size, 1, none⟩ = some (.slice a l.length cap) from boxc hb 1)
      clear hd hcl hb HAM
      go_wp2_with fail
      refine wp_region_quiet_below (by kernel_rfl) (by kernel_rfl) ?_
      repeat (first | go_big_quiet_step (first | (go_at_call 81; rename_i pp; refine Calls.below_of pp (HC.out _ (by omega) (by omega) _ (bel_of (of_alloc HB.out) pp.hb)))) | quiet_step (first | (go_at_call 81; rename_i pp; refine Calls.below_of pp (HC.out _ (by omega) (by omega) _ (bel_of (of_alloc HB.out) pp.hb)))))
      refine wpQuiet_nil ?_
      rintro w5 ⟨pp, hpp⟩
      have b5 := pp.hb
      rw [← hpp] at b5
      have HB5 := hid (box2 HB.out b5)
      have HI5 := hid (HIn.out.below b5)
      clear hpp pp p0 p1 b5
      go_wp2_with fail
      go_roundw
      case rel => exact ⟨k + 1, by omega, by go_num, ⟨_, _, rfl, rfl, by first | exact HN.out | (refine ⟨HN.out.1.trans ?_, HN.out.2.trans ?_⟩ <;> omega)⟩, HI5.out, HB5.out⟩
      case measure => simp [intOf]; omega
    · have he : zs.take k = zs := List.take_of_length_le (by omega)
      rw [he] at HAM
      clear hi hb
      have HF := hid HAM.out
      go_wp2_with fail
      go_ret2
      rw [HF.out.1, HF.out.2]
      exact ⟨rfl, of_alloc HB.out⟩
end SpanC
end Go.Proofs.Ytpnahhpkaegeeaa
