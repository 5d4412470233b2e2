/- Contracts of package supply: From. -/
import Derived.Test.YtepnlfnnancnfaaSupW
set_option linter.unusedVariables false
namespace Go.Proofs.Ytepnlfnnancnfaa
open Go.RowKit Go.Shelf Go.Lib Go.Sort
open SpanM SupM
namespace SpanC
theorem from_err (size t n : Int) (a : Option Addr) (cap : Nat) (l : List Sp) (w : World) (hr : Sps w a l) (he : sE size l n 1000000 ≠ 0) :
    Calls Try.prog 18 #[.agg #[.int .i64 size, .slice a l.length cap], .int .i64 t, .int .i64 n] w fun e w' => e = .returned (.tuple #[.int .i64 0, .int .i64 (sE size l n 1000000)]) ∧ Below w.heap.size w w' := by
  have HC := hid (fun W (h : Below w.heap.size w W) => scheck_any size n 1000000 a cap l W (hr.below h (Nat.le_refl _)))
  have hne : (sE size l n 1000000 != 0) = true := by simp [he]
  clear hr he
  generalize sE size l n 1000000 = E at *
  go_enter Try.func18, Try.ntmps18
  go_wp2_with fail
  refine (HC.out _ (by go_grown)).mono ?_
  rintro e w1 ⟨rfl, b1⟩
  go_wp2_with fail
  go_ret2
  exact ⟨rfl, bel_of (by go_grown) b1⟩
theorem from_arg (size t n : Int) (a : Option Addr) (cap : Nat) (l : List Sp) (w : World) (hr : Sps w a l) (he : sE size l n 1000000 = 0) (ht : ¬ (0 ≤ t ∧ t ≤ 1000000)) :
    Calls Try.prog 18 #[.agg #[.int .i64 size, .slice a l.length cap], .int .i64 t, .int .i64 n] w fun e w' => e = .returned (.tuple #[.int .i64 0, .int .i64 1]) ∧ Below w.heap.size w w' := by
  have HC := hid (fun W (h : Below w.heap.size w W) => scheck_any size n 1000000 a cap l W (hr.below h (Nat.le_refl _)))
  rw [he] at HC
  clear hr he
  go_enter Try.func18, Try.ntmps18
  go_wp2_with fail
  refine (HC.out _ (by go_grown)).mono ?_
  rintro e w1 ⟨rfl, b1⟩
  go_wp2_with (first | (go_at_call 41; go_call (swithin_no _ _ _ _) as e w' ⟨rfl, rfl⟩))
  go_ret2
  exact ⟨rfl, bel_of (by go_grown) b1⟩
theorem from_zero (size t : Int) (a : Option Addr) (cap : Nat) (l : List Sp) (w : World) (hr : Sps w a l) (he : sE size l 0 1000000 = 0) (t1 : 0 ≤ t) (t2 : t ≤ 1000000) :
    Calls Try.prog 18 #[.agg #[.int .i64 size, .slice a l.length cap], .int .i64 t, .int .i64 0] w fun e w' => e = .returned (.tuple #[.int .i64 0, .int .i64 0]) ∧ Below w.heap.size w w' := by
  have HC := hid (fun W (h : Below w.heap.size w W) => scheck_any size 0 1000000 a cap l W (hr.below h (Nat.le_refl _)))
  rw [he] at HC
  clear hr he
  go_enter Try.func18, Try.ntmps18
  go_wp2_with fail
  refine (HC.out _ (by go_grown)).mono ?_
  rintro e w1 ⟨rfl, b1⟩
  go_wp2_with (first | (go_at_call 41; go_call (swithin_yes _ _ _ _) as e w' ⟨rfl, rfl⟩))
  go_ret2
  exact ⟨rfl, bel_of (by go_grown) b1⟩
theorem from_none (size t n : Int) (a : Option Addr) (cap : Nat) (w : World) (he : sE size [] n 1000000 = 0) (t1 : 0 ≤ t) (t2 : t ≤ 1000000) (hn : n ≠ 0) :
    Calls Try.prog 18 #[.agg #[.int .i64 size, .slice a 0 cap], .int .i64 t, .int .i64 n] w fun e w' => e = .returned (.tuple #[.int .i64 0, .int .i64 7]) ∧ Below w.heap.size w w' := by
  have HC := hid (fun W (h : Below w.heap.size w W) => scheck_any size n 1000000 a cap [] W (.inl rfl))
  rw [he] at HC
  simp only [List.length_nil] at HC
  have q0 : (n == 0) = false := by simp [hn]
  clear he hn
  go_enter Try.func18, Try.ntmps18
  go_wp2_with fail
  refine (HC.out _ (by go_grown)).mono ?_
  rintro e w1 ⟨rfl, b1⟩
  have HB1 : Hid (Below (w.heap.size + 1) (w.alloc (.cells #[.int .i64 size, .slice a 0 cap] 24)) w1) := box1 b1
  clear b1
  have c1 : w1.cell? ⟨w.heap.size, 1, none⟩ = some (.slice a 0 cap) := boxc HB1.out 1
  go_wp2_with (first | (go_at_call 41; go_call (swithin_yes _ _ _ _) as e w' ⟨rfl, rfl⟩))
  go_ret2
  exact ⟨rfl, of_alloc HB1.out⟩
set_option maxHeartbeats 1000000 in
theorem from_ok (size t n : Int) (a : Option Addr) (cap : Nat) (l : List Sp) (w : World) (hr : Sps w a l) (he : sE size l n 1000000 = 0) (t1 : 0 ≤ t) (t2 : t ≤ 1000000) (hne : l ≠ []) (hnz : n ≠ 0) :
    Calls Try.prog 18 #[.agg #[.int .i64 size, .slice a l.length cap], .int .i64 t, .int .i64 n] w fun e w' => e = .returned (.tuple #[.int .i64 (fr size l t n), .int .i64 0]) ∧ Below w.heap.size w w' := by
  have HC := hid (fun W (h : Below w.heap.size w W) => scheck_any size n 1000000 a cap l W (hr.below h (Nat.le_refl _)))
  rw [he] at HC
  obtain ⟨hk, n1, n2⟩ := sE_zero he
  obtain ⟨s1, s2, s3, s4⟩ := chk_zero hk
  have q0 : (n == 0) = false := by simp [hnz]
  have hpos : 0 < l.length := List.length_pos_iff.2 hne
  have q00 : ((l.length : Int) == 0) = false := by rw [beq_eq_false_iff_ne]; omega
  have HT := hid (fun W (h : Below w.heap.size w W) => tally_any size a cap l W (hr.below h (Nat.le_refl _)) hk)
  have hcb := cb_pos s1 s4 t1
  have HF : Hid (fr size l t n = endT size l (cb size l t + n) - t) := rfl
  have hen := endT_le s1 s4 hne (show 1 ≤ cb size l t + n by omega)
  have hen2 : endT size l (cb size l t + n) ≤ 3000000000000 := by
    have := Int.mul_le_mul_of_nonneg_left s2 (show 0 ≤ cb size l t + n by omega)
    omega
  have HBl := hid (fun g c V (h : Below w.heap.size w V) (h2 : Tal V g l) => below_any size t a cap g c l V (hr.below h (Nat.le_refl _)) hk h2 t1 (by omega))
  have HEn := hid (fun g c V (h : Below w.heap.size w V) (h2 : Tal V g l) => end_any size (cb size l t + n) a cap g c l V (hr.below h (Nat.le_refl _)) hk h2 hne (by omega) (by omega))
  unfold tal at HBl HEn
  obtain ⟨r1, r2⟩ := hcb
  have r3 := hen.1
  clear hr hk he hne hnz s4 hen
  generalize endT size l (cb size l t + n) = E at *
  generalize cb size l t = C at *
  go_enter Try.func18, Try.ntmps18
  go_wp2_with fail
  refine (HC.out _ (by go_grown)).mono ?_
  rintro e w1 ⟨rfl, b1⟩
  have HB1 : Hid (Below (w.heap.size + 1) (w.alloc (.cells #[.int .i64 size, .slice a l.length cap] 24)) w1) := box1 b1
  clear b1
  have c0 : w1.cell? ⟨w.heap.size, 0, none⟩ = some (.int .i64 size) := boxc HB1.out 0
  have c1 : w1.cell? ⟨w.heap.size, 1, none⟩ = some (.slice a l.length cap) := boxc HB1.out 1
  go_wp2_with (first | (go_at_call 41; refine (swithin_yes _ _ _ _ t1 t2).mono ?_; rintro e w' ⟨rfl, hw⟩; replace hw := hw.symm; subst hw))
  refine (HT.out _ (of_alloc HB1.out)).mono ?_
  rintro e w2 ⟨⟨g, c, rfl, ht⟩, b2⟩
  have hb2 := bel_of (of_alloc HB1.out) b2
  obtain ⟨m, hm⟩ : ∃ m, m = l.length + 1 := ⟨_, rfl⟩
  have HBx := hid (HBl.out g c)
  have HEx := hid (HEn.out g c)
  rw [← hm] at HBx HEx ⊢
  have LB := hid (LBox.start (size := size) (a := a) (cap := cap) (c := c) (m := m) hb2 ht)
  clear hb2 b2 ht hm c0 c1 HT HC HBl HEn
  go_wp2_with fail
  generalize w2.heap.size = B at *
  generalize w2.alloc (.cells #[.int .i64 size, .slice a l.length cap, .slice (some ⟨g, 0, none⟩) m c] 55) = V0 at *
  have p0 := BelowOf.cell LB.out.b0
  have p1 := BelowOf.cell LB.out.b1
  have p2 := BelowOf.cell LB.out.b2
  refine wp_region_quiet_below (by kernel_rfl) (by kernel_rfl) ?_
  repeat (first | go_big_quiet_step (first | (go_at_call 37; rename_i pp; exact Calls.below_of pp (HBx.out _ (LB.out.step pp.hb).be (LB.out.step pp.hb).ta)) | (go_at_call 40; rename_i pp; exact Calls.below_of pp (HEx.out _ (LB.out.step pp.hb).be (LB.out.step pp.hb).ta))) | quiet_step (first | (go_at_call 37; rename_i pp; exact Calls.below_of pp (HBx.out _ (LB.out.step pp.hb).be (LB.out.step pp.hb).ta)) | (go_at_call 40; rename_i pp; exact Calls.below_of pp (HEx.out _ (LB.out.step pp.hb).be (LB.out.step pp.hb).ta))))
  refine wpQuiet_nil ?_
  rintro w5 ⟨pp, hpp⟩
  have b5 := pp.hb
  rw [← hpp] at b5
  have L5 := hid (LB.out.step b5)
  clear hpp pp p0 p1 p2 b5
  go_wp2_with fail
  go_ret2
  refine ⟨?_, L5.out.be⟩
  rw [HF.out]
  rfl
end SpanC
end Go.Proofs.Ytepnlfnnancnfaa
