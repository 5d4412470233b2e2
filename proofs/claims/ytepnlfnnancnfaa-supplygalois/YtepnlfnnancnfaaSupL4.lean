/- The walk of SupplyGalois. -/
import Derived.Test.YtepnlfnnancnfaaSupL
set_option linter.unusedVariables false
namespace Go.Proofs.Ytepnlfnnancnfaa
open Go.RowKit
open SpanM SupM
namespace SpanC
set_option maxHeartbeats 1000000 in
theorem galois_e (size k n : Int) (a : Option Addr) (cap : Nat) (l : List Sp) (w : World) (hr : Sps w a l) (he : waitE size l k ≠ 0) :
    Calls Try.prog 9 #[.agg #[.int .i64 size, .slice a l.length cap], .int .i64 k, .int .i64 n] w fun e w' => e = .returned (.bool true) ∧ Below w.heap.size w w' := by
  have H1 := hid (fun W (h : Below w.heap.size w W) => wait_any size k a cap l W (hr.below h (Nat.le_refl _)))
  have H2 := hid (fun W (h : Below w.heap.size w W) => least_any size n a cap l W (hr.below h (Nat.le_refl _)))
  have hne : (waitE size l k != 0) = true := by simp [he]
  have hne2 : (waitE size l k == 0) = false := by simp [he]
  rw [waitV_err he] at H1
  clear he hr
  generalize waitE size l k = E at *
  generalize leastV size l n = A at *
  generalize leastE size l n = E2 at *
  go_enter Try.func9, Try.ntmps9
  go_wp2_with fail
  refine (H1.out _ (by go_grown)).mono ?_
  rintro e w1 ⟨rfl, b⟩
  have HB1 : Hid (Below (w.heap.size + 1) (w.alloc (.cells #[.int .i64 size, .slice a l.length cap] 24)) w1) := box1 b
  clear b
  have c1 : w1.cell? ⟨w.heap.size, 0, none⟩ = some (.int .i64 size) := boxc HB1.out 0
  have c2 : w1.cell? ⟨w.heap.size, 1, none⟩ = some (.slice a l.length cap) := boxc HB1.out 1
  go_wp2_with fail
  refine (H2.out _ (of_alloc HB1.out)).mono ?_
  rintro e w2 ⟨rfl, b⟩
  have HB2 : Hid (Below (w.heap.size + 1) (w.alloc (.cells #[.int .i64 size, .slice a l.length cap] 24)) w2) := box2 HB1.out b
  clear b c1 c2
  have c1 : w2.cell? ⟨w.heap.size, 0, none⟩ = some (.int .i64 size) := boxc HB2.out 0
  have c2 : w2.cell? ⟨w.heap.size, 1, none⟩ = some (.slice a l.length cap) := boxc HB2.out 1
  go_wp2_with fail
  refine ((fun (_ : Below w.heap.size w _) => slives _) (of_alloc HB2.out)).mono ?_
  rintro e w3 ⟨rfl, b⟩
  have HB3 : Hid (Below (w.heap.size + 1) (w.alloc (.cells #[.int .i64 size, .slice a l.length cap] 24)) w3) := box2 HB2.out b
  clear b c1 c2
  have c1 : w3.cell? ⟨w.heap.size, 0, none⟩ = some (.int .i64 size) := boxc HB3.out 0
  have c2 : w3.cell? ⟨w.heap.size, 1, none⟩ = some (.slice a l.length cap) := boxc HB3.out 1
  go_wp2_with fail
  refine ((fun (_ : Below w.heap.size w _) => slives _) (of_alloc HB3.out)).mono ?_
  rintro e w4 ⟨rfl, b⟩
  have HB4 : Hid (Below (w.heap.size + 1) (w.alloc (.cells #[.int .i64 size, .slice a l.length cap] 24)) w4) := box2 HB3.out b
  clear b c1 c2
  have c1 : w4.cell? ⟨w.heap.size, 0, none⟩ = some (.int .i64 size) := boxc HB4.out 0
  have c2 : w4.cell? ⟨w.heap.size, 1, none⟩ = some (.slice a l.length cap) := boxc HB4.out 1
  go_wp2_with fail
  go_ret
  exact ⟨by first | rfl | simp, of_alloc HB4.out⟩
set_option maxHeartbeats 1000000 in
theorem galois_f (size k n : Int) (a : Option Addr) (cap : Nat) (l : List Sp) (w : World) (hr : Sps w a l) (he : waitE size l k = 0) (hf : leastE size l n ≠ 0) :
    Calls Try.prog 9 #[.agg #[.int .i64 size, .slice a l.length cap], .int .i64 k, .int .i64 n] w fun e w' => e = .returned (.bool true) ∧ Below w.heap.size w w' := by
  have H1 := hid (fun W (h : Below w.heap.size w W) => wait_any size k a cap l W (hr.below h (Nat.le_refl _)))
  have H2 := hid (fun W (h : Below w.heap.size w W) => least_any size n a cap l W (hr.below h (Nat.le_refl _)))
  have hne : (leastE size l n != 0) = true := by simp [hf]
  rw [he] at H1
  clear he hf hr
  generalize waitV size l k = V at *
  generalize leastV size l n = A at *
  generalize leastE size l n = E2 at *
  go_enter Try.func9, Try.ntmps9
  go_wp2_with fail
  refine (H1.out _ (by go_grown)).mono ?_
  rintro e w1 ⟨rfl, b⟩
  have HB1 : Hid (Below (w.heap.size + 1) (w.alloc (.cells #[.int .i64 size, .slice a l.length cap] 24)) w1) := box1 b
  clear b
  have c1 : w1.cell? ⟨w.heap.size, 0, none⟩ = some (.int .i64 size) := boxc HB1.out 0
  have c2 : w1.cell? ⟨w.heap.size, 1, none⟩ = some (.slice a l.length cap) := boxc HB1.out 1
  go_wp2_with fail
  refine (H2.out _ (of_alloc HB1.out)).mono ?_
  rintro e w2 ⟨rfl, b⟩
  have HB2 : Hid (Below (w.heap.size + 1) (w.alloc (.cells #[.int .i64 size, .slice a l.length cap] 24)) w2) := box2 HB1.out b
  clear b c1 c2
  have c1 : w2.cell? ⟨w.heap.size, 0, none⟩ = some (.int .i64 size) := boxc HB2.out 0
  have c2 : w2.cell? ⟨w.heap.size, 1, none⟩ = some (.slice a l.length cap) := boxc HB2.out 1
  go_wp2_with fail
  refine ((fun (_ : Below w.heap.size w _) => slives _) (of_alloc HB2.out)).mono ?_
  rintro e w3 ⟨rfl, b⟩
  have HB3 : Hid (Below (w.heap.size + 1) (w.alloc (.cells #[.int .i64 size, .slice a l.length cap] 24)) w3) := box2 HB2.out b
  clear b c1 c2
  have c1 : w3.cell? ⟨w.heap.size, 0, none⟩ = some (.int .i64 size) := boxc HB3.out 0
  have c2 : w3.cell? ⟨w.heap.size, 1, none⟩ = some (.slice a l.length cap) := boxc HB3.out 1
  go_wp2_with fail
  refine ((fun (_ : Below w.heap.size w _) => slives _) (of_alloc HB3.out)).mono ?_
  rintro e w4 ⟨rfl, b⟩
  have HB4 : Hid (Below (w.heap.size + 1) (w.alloc (.cells #[.int .i64 size, .slice a l.length cap] 24)) w4) := box2 HB3.out b
  clear b c1 c2
  have c1 : w4.cell? ⟨w.heap.size, 0, none⟩ = some (.int .i64 size) := boxc HB4.out 0
  have c2 : w4.cell? ⟨w.heap.size, 1, none⟩ = some (.slice a l.length cap) := boxc HB4.out 1
  go_wp2_with fail
  go_ret
  exact ⟨by first | rfl | simp, of_alloc HB4.out⟩
set_option maxHeartbeats 1000000 in
theorem galois_none (size k n : Int) (a : Option Addr) (cap : Nat) (l : List Sp) (w : World) (hr : Sps w a l) (he : waitE size l k = 0) (hf : leastE size l n = 0) (hg : waitE size l (k + 1) ≠ 0) :
    Calls Try.prog 9 #[.agg #[.int .i64 size, .slice a l.length cap], .int .i64 k, .int .i64 n] w fun e w' => e = .returned (.bool true) ∧ Below w.heap.size w w' := by
  have H1 := hid (fun W (h : Below w.heap.size w W) => wait_any size k a cap l W (hr.below h (Nat.le_refl _)))
  have H2 := hid (fun W (h : Below w.heap.size w W) => least_any size n a cap l W (hr.below h (Nat.le_refl _)))
  have H3 := hid (fun W (h : Below w.heap.size w W) => wait_any size (k + 1) a cap l W (hr.below h (Nat.le_refl _)))
  obtain ⟨hk, k1, k2, hw⟩ := wait_zeroE he
  obtain ⟨_, n1, n2⟩ := least_zero hf
  obtain ⟨s1, s2, s3, s4⟩ := chk_zero hk
  have h1 : (decide (k ≤ leastV size l n) == decide (waitV size l k ≤ n)) = true := by
    rw [beq_iff_eq, decide_eq_decide]
    rcases hw with ⟨w1, w2⟩ | ⟨w1, w2, w3⟩
    · rw [w2]
      have := (leastV_P hf).bd s1 s4 n1
      omega
    · rw [w3]; exact wt_iff s1 s4 w2 w1 n1 (leastV_P hf)
  have h2 : (waitE size l (k + 1) != 0) = true := by simp [hg]
  rw [he] at H1
  rw [hf] at H2
  clear he hf hg hr hk s4 hw
  generalize waitV size l (k + 1) = V2 at *
  generalize waitE size l (k + 1) = E3 at *
  generalize waitV size l k = V at *
  generalize leastV size l n = A at *
  go_enter Try.func9, Try.ntmps9
  go_wp2_with fail
  refine (H1.out _ (by go_grown)).mono ?_
  rintro e w1 ⟨rfl, b⟩
  have HB1 : Hid (Below (w.heap.size + 1) (w.alloc (.cells #[.int .i64 size, .slice a l.length cap] 24)) w1) := box1 b
  clear b
  have c1 : w1.cell? ⟨w.heap.size, 0, none⟩ = some (.int .i64 size) := boxc HB1.out 0
  have c2 : w1.cell? ⟨w.heap.size, 1, none⟩ = some (.slice a l.length cap) := boxc HB1.out 1
  go_wp2_with fail
  refine (H2.out _ (of_alloc HB1.out)).mono ?_
  rintro e w2 ⟨rfl, b⟩
  have HB2 : Hid (Below (w.heap.size + 1) (w.alloc (.cells #[.int .i64 size, .slice a l.length cap] 24)) w2) := box2 HB1.out b
  clear b c1 c2
  have c1 : w2.cell? ⟨w.heap.size, 0, none⟩ = some (.int .i64 size) := boxc HB2.out 0
  have c2 : w2.cell? ⟨w.heap.size, 1, none⟩ = some (.slice a l.length cap) := boxc HB2.out 1
  go_wp2_with fail
  refine ((fun (_ : Below w.heap.size w _) => slives _) (of_alloc HB2.out)).mono ?_
  rintro e w3 ⟨rfl, b⟩
  have HB3 : Hid (Below (w.heap.size + 1) (w.alloc (.cells #[.int .i64 size, .slice a l.length cap] 24)) w3) := box2 HB2.out b
  clear b c1 c2
  have c1 : w3.cell? ⟨w.heap.size, 0, none⟩ = some (.int .i64 size) := boxc HB3.out 0
  have c2 : w3.cell? ⟨w.heap.size, 1, none⟩ = some (.slice a l.length cap) := boxc HB3.out 1
  go_wp2_with fail
  refine (H3.out _ (of_alloc HB3.out)).mono ?_
  rintro e w4 ⟨rfl, b⟩
  have HB4 : Hid (Below (w.heap.size + 1) (w.alloc (.cells #[.int .i64 size, .slice a l.length cap] 24)) w4) := box2 HB3.out b
  clear b c1 c2
  have c1 : w4.cell? ⟨w.heap.size, 0, none⟩ = some (.int .i64 size) := boxc HB4.out 0
  have c2 : w4.cell? ⟨w.heap.size, 1, none⟩ = some (.slice a l.length cap) := boxc HB4.out 1
  go_wp2_with fail
  go_ret
  exact ⟨by first | rfl | simp [h1] | simp_all, of_alloc HB4.out⟩
set_option maxHeartbeats 1000000 in
theorem galois_ok (size k n : Int) (a : Option Addr) (cap : Nat) (l : List Sp) (w : World) (hr : Sps w a l) (he : waitE size l k = 0) (hf : leastE size l n = 0) (hg : waitE size l (k + 1) = 0) :
    Calls Try.prog 9 #[.agg #[.int .i64 size, .slice a l.length cap], .int .i64 k, .int .i64 n] w fun e w' => e = .returned (.bool true) ∧ Below w.heap.size w w' := by
  have H1 := hid (fun W (h : Below w.heap.size w W) => wait_any size k a cap l W (hr.below h (Nat.le_refl _)))
  have H2 := hid (fun W (h : Below w.heap.size w W) => least_any size n a cap l W (hr.below h (Nat.le_refl _)))
  have H3 := hid (fun W (h : Below w.heap.size w W) => wait_any size (k + 1) a cap l W (hr.below h (Nat.le_refl _)))
  obtain ⟨hk, k1, k2, hw⟩ := wait_zeroE he
  obtain ⟨_, n1, n2⟩ := least_zero hf
  obtain ⟨s1, s2, s3, s4⟩ := chk_zero hk
  have h1 : (decide (k ≤ leastV size l n) == decide (waitV size l k ≤ n)) = true := by
    rw [beq_iff_eq, decide_eq_decide]
    rcases hw with ⟨w1, w2⟩ | ⟨w1, w2, w3⟩
    · rw [w2]
      have := (leastV_P hf).bd s1 s4 n1
      omega
    · rw [w3]; exact wt_iff s1 s4 w2 w1 n1 (leastV_P hf)
  have h2 : waitV size l k < waitV size l (k + 1) := by
    obtain ⟨_, k3, k4, hw2⟩ := wait_zeroE hg
    rcases hw2 with ⟨w1, _⟩ | ⟨w1, w2, w3⟩
    · omega
    · rw [w3]
      rcases hw with ⟨u1, u2⟩ | ⟨u1, u2, u3⟩
      · rw [u2]; exact (wt_at s1 s4 w2 w1).1
      · rw [u3]; exact wt_more s1 s4 w2 u1
  rw [hg] at H3
  rw [he] at H1
  rw [hf] at H2
  clear he hf hg hr hk s4 hw
  generalize waitV size l (k + 1) = V2 at *
  generalize waitE size l (k + 1) = E3 at *
  generalize waitV size l k = V at *
  generalize leastV size l n = A at *
  go_enter Try.func9, Try.ntmps9
  go_wp2_with fail
  refine (H1.out _ (by go_grown)).mono ?_
  rintro e w1 ⟨rfl, b⟩
  have HB1 : Hid (Below (w.heap.size + 1) (w.alloc (.cells #[.int .i64 size, .slice a l.length cap] 24)) w1) := box1 b
  clear b
  have c1 : w1.cell? ⟨w.heap.size, 0, none⟩ = some (.int .i64 size) := boxc HB1.out 0
  have c2 : w1.cell? ⟨w.heap.size, 1, none⟩ = some (.slice a l.length cap) := boxc HB1.out 1
  go_wp2_with fail
  refine (H2.out _ (of_alloc HB1.out)).mono ?_
  rintro e w2 ⟨rfl, b⟩
  have HB2 : Hid (Below (w.heap.size + 1) (w.alloc (.cells #[.int .i64 size, .slice a l.length cap] 24)) w2) := box2 HB1.out b
  clear b c1 c2
  have c1 : w2.cell? ⟨w.heap.size, 0, none⟩ = some (.int .i64 size) := boxc HB2.out 0
  have c2 : w2.cell? ⟨w.heap.size, 1, none⟩ = some (.slice a l.length cap) := boxc HB2.out 1
  go_wp2_with fail
  refine ((fun (_ : Below w.heap.size w _) => slives _) (of_alloc HB2.out)).mono ?_
  rintro e w3 ⟨rfl, b⟩
  have HB3 : Hid (Below (w.heap.size + 1) (w.alloc (.cells #[.int .i64 size, .slice a l.length cap] 24)) w3) := box2 HB2.out b
  clear b c1 c2
  have c1 : w3.cell? ⟨w.heap.size, 0, none⟩ = some (.int .i64 size) := boxc HB3.out 0
  have c2 : w3.cell? ⟨w.heap.size, 1, none⟩ = some (.slice a l.length cap) := boxc HB3.out 1
  go_wp2_with fail
  refine (H3.out _ (of_alloc HB3.out)).mono ?_
  rintro e w4 ⟨rfl, b⟩
  have HB4 : Hid (Below (w.heap.size + 1) (w.alloc (.cells #[.int .i64 size, .slice a l.length cap] 24)) w4) := box2 HB3.out b
  clear b c1 c2
  have c1 : w4.cell? ⟨w.heap.size, 0, none⟩ = some (.int .i64 size) := boxc HB4.out 0
  have c2 : w4.cell? ⟨w.heap.size, 1, none⟩ = some (.slice a l.length cap) := boxc HB4.out 1
  go_wp2_with fail
  go_ret
  exact ⟨by first | rfl | simp [h1] | simp_all, of_alloc HB4.out⟩
theorem supplyGalois_walk (size : Int) (a : Option Addr) (len cap : Nat) (l : List Sp) (k n : Int) (w : World) (hs : wf64 size) (h : IsSps w a len cap l) (hk : wf64 k) (hn : wf64 n) :
    Calls Try.prog 9 #[.agg #[.int .i64 size, .slice a len cap], .int .i64 k, .int .i64 n] w fun e w' => e = .returned (.bool true) ∧ Below w.heap.size w w' := by
  obtain ⟨rfl, h1, h2, hr, _, _⟩ := h
  by_cases he : waitE size l k = 0
  · by_cases hf : leastE size l n = 0
    · by_cases hg : waitE size l (k + 1) = 0
      · exact galois_ok size k n a cap l w hr he hf hg
      · exact galois_none size k n a cap l w hr he hf hg
    · exact galois_f size k n a cap l w hr he hf
  · exact galois_e size k n a cap l w hr he
end SpanC
end Go.Proofs.Ytepnlfnnancnfaa
