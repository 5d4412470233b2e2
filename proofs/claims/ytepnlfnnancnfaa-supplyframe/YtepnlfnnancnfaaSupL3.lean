/- The walk of SupplyFrame. -/
import Derived.Test.YtepnlfnnancnfaaSupL
set_option linter.unusedVariables false
namespace Go.Proofs.Ytepnlfnnancnfaa
open Go.RowKit
open SpanM SupM
namespace SpanC
set_option maxHeartbeats 1000000 in
theorem frame_err (size n : Int) (a : Option Addr) (cap : Nat) (l : List Sp) (w : World) (hr : Sps w a l) (he : leastE size l n ≠ 0) :
    Calls Try.prog 7 #[.agg #[.int .i64 size, .slice a l.length cap], .int .i64 n] w fun e w' => e = .returned (.bool true) ∧ Below w.heap.size w w' := by
  have H1 := hid (fun W (h : Below w.heap.size w W) => least_any size n a cap l W (hr.below h (Nat.le_refl _)))
  have H2 := hid (fun W (h : Below w.heap.size w W) => most_any size n a cap l W (hr.below h (Nat.le_refl _)))
  have hne : (leastE size l n != 0) = true := by simp [he]
  clear he hr
  generalize leastV size l n = A at *
  generalize mostV size l n = M at *
  generalize leastE size l n = E at *
  go_enter Try.func7, Try.ntmps7
  go_wp2_with fail
  refine (H1.out _ (by go_grown)).mono ?_
  rintro e w1 ⟨rfl, b⟩
  have HB1 : Hid (Below (w.heap.size + 1) (w.alloc (.cells #[.int .i64 size, .slice a l.length cap] 24)) w1) := box1 b
  clear b
  have c1 : w1.cell? ⟨w.heap.size, 0, none⟩ = some (.int .i64 size) := boxc HB1.out 0
  have c2 : w1.cell? ⟨w.heap.size, 1, none⟩ = some (.slice a l.length cap) := boxc HB1.out 1
  go_wp2_with fail
  refine (H2.out _ (of_alloc HB1.out)).mono ?_
  rintro e w2 ⟨rfl, b⟩
  have HB2 : Hid (Below (w.heap.size + 1) (w.alloc (.cells #[.int .i64 size, .slice a l.length cap] 24)) w2) := box2 HB1.out b
  clear b c1 c2
  have c1 : w2.cell? ⟨w.heap.size, 0, none⟩ = some (.int .i64 size) := boxc HB2.out 0
  have c2 : w2.cell? ⟨w.heap.size, 1, none⟩ = some (.slice a l.length cap) := boxc HB2.out 1
  go_wp2_with fail
  refine ((fun (_ : Below w.heap.size w _) => slives _) (of_alloc HB2.out)).mono ?_
  rintro e w3 ⟨rfl, b⟩
  have HB3 : Hid (Below (w.heap.size + 1) (w.alloc (.cells #[.int .i64 size, .slice a l.length cap] 24)) w3) := box2 HB2.out b
  clear b c1 c2
  have c1 : w3.cell? ⟨w.heap.size, 0, none⟩ = some (.int .i64 size) := boxc HB3.out 0
  have c2 : w3.cell? ⟨w.heap.size, 1, none⟩ = some (.slice a l.length cap) := boxc HB3.out 1
  go_wp2_with fail
  refine ((fun (_ : Below w.heap.size w _) => slives _) (of_alloc HB3.out)).mono ?_
  rintro e w4 ⟨rfl, b⟩
  have HB4 : Hid (Below (w.heap.size + 1) (w.alloc (.cells #[.int .i64 size, .slice a l.length cap] 24)) w4) := box2 HB3.out b
  clear b c1 c2
  have c1 : w4.cell? ⟨w.heap.size, 0, none⟩ = some (.int .i64 size) := boxc HB4.out 0
  have c2 : w4.cell? ⟨w.heap.size, 1, none⟩ = some (.slice a l.length cap) := boxc HB4.out 1
  go_wp2_with fail
  go_ret
  exact ⟨by first | rfl | simp, of_alloc HB4.out⟩
set_option maxHeartbeats 1000000 in
theorem frame_far (size n : Int) (a : Option Addr) (cap : Nat) (l : List Sp) (w : World) (hr : Sps w a l) (he : leastE size l n = 0) (hn : 549755813888 - size < n) :
    Calls Try.prog 7 #[.agg #[.int .i64 size, .slice a l.length cap], .int .i64 n] w fun e w' => e = .returned (.bool true) ∧ Below w.heap.size w w' := by
  have H1 := hid (fun W (h : Below w.heap.size w W) => least_any size n a cap l W (hr.below h (Nat.le_refl _)))
  have H2 := hid (fun W (h : Below w.heap.size w W) => most_any size n a cap l W (hr.below h (Nat.le_refl _)))
  rw [he] at H1 H2
  obtain ⟨hk, n1, n2⟩ := least_zero he
  obtain ⟨s1, s2, s3, s4⟩ := chk_zero hk
  clear he hr hk s4
  generalize leastV size l n = A at *
  generalize mostV size l n = M at *
  go_enter Try.func7, Try.ntmps7
  go_wp2_with fail
  refine (H1.out _ (by go_grown)).mono ?_
  rintro e w1 ⟨rfl, b⟩
  have HB1 : Hid (Below (w.heap.size + 1) (w.alloc (.cells #[.int .i64 size, .slice a l.length cap] 24)) w1) := box1 b
  clear b
  have c1 : w1.cell? ⟨w.heap.size, 0, none⟩ = some (.int .i64 size) := boxc HB1.out 0
  have c2 : w1.cell? ⟨w.heap.size, 1, none⟩ = some (.slice a l.length cap) := boxc HB1.out 1
  go_wp2_with fail
  refine (H2.out _ (of_alloc HB1.out)).mono ?_
  rintro e w2 ⟨rfl, b⟩
  have HB2 : Hid (Below (w.heap.size + 1) (w.alloc (.cells #[.int .i64 size, .slice a l.length cap] 24)) w2) := box2 HB1.out b
  clear b c1 c2
  have c1 : w2.cell? ⟨w.heap.size, 0, none⟩ = some (.int .i64 size) := boxc HB2.out 0
  have c2 : w2.cell? ⟨w.heap.size, 1, none⟩ = some (.slice a l.length cap) := boxc HB2.out 1
  go_wp2_with fail
  refine ((fun (_ : Below w.heap.size w _) => slives _) (of_alloc HB2.out)).mono ?_
  rintro e w3 ⟨rfl, b⟩
  have HB3 : Hid (Below (w.heap.size + 1) (w.alloc (.cells #[.int .i64 size, .slice a l.length cap] 24)) w3) := box2 HB2.out b
  clear b c1 c2
  have c1 : w3.cell? ⟨w.heap.size, 0, none⟩ = some (.int .i64 size) := boxc HB3.out 0
  have c2 : w3.cell? ⟨w.heap.size, 1, none⟩ = some (.slice a l.length cap) := boxc HB3.out 1
  go_wp2_with fail
  refine ((fun (_ : Below w.heap.size w _) => slives _) (of_alloc HB3.out)).mono ?_
  rintro e w4 ⟨rfl, b⟩
  have HB4 : Hid (Below (w.heap.size + 1) (w.alloc (.cells #[.int .i64 size, .slice a l.length cap] 24)) w4) := box2 HB3.out b
  clear b c1 c2
  have c1 : w4.cell? ⟨w.heap.size, 0, none⟩ = some (.int .i64 size) := boxc HB4.out 0
  have c2 : w4.cell? ⟨w.heap.size, 1, none⟩ = some (.slice a l.length cap) := boxc HB4.out 1
  go_wp2_with fail
  go_ret
  exact ⟨by first | rfl | simp, of_alloc HB4.out⟩
set_option maxHeartbeats 1000000 in
theorem frame_ok (size n : Int) (a : Option Addr) (cap : Nat) (l : List Sp) (w : World) (hr : Sps w a l) (he : leastE size l n = 0) (hn : n ≤ 549755813888 - size) :
    Calls Try.prog 7 #[.agg #[.int .i64 size, .slice a l.length cap], .int .i64 n] w fun e w' => e = .returned (.bool true) ∧ Below w.heap.size w w' := by
  have H1 := hid (fun W (h : Below w.heap.size w W) => least_any size n a cap l W (hr.below h (Nat.le_refl _)))
  have H2 := hid (fun W (h : Below w.heap.size w W) => most_any size n a cap l W (hr.below h (Nat.le_refl _)))
  have H3 := hid (fun W (h : Below w.heap.size w W) => least_any size (n + size) a cap l W (hr.below h (Nat.le_refl _)))
  have H4 := hid (fun W (h : Below w.heap.size w W) => most_any size (n + size) a cap l W (hr.below h (Nat.le_refl _)))
  obtain ⟨hk, n1, n2⟩ := least_zero he
  obtain ⟨s1, s2, s3, s4⟩ := chk_zero hk
  have he2 : leastE size l (n + size) = 0 := sE_of hk (by omega) (by omega)
  rw [he] at H1 H2
  rw [he2, (leastV_P he).frame s1 (leastV_P he2)] at H3
  rw [he2, (mostV_P he).frame s1 (mostV_P he2)] at H4
  obtain ⟨q0, q1, q2, q3⟩ := leastV_bd (size := size) (l := l) (n := n)
  have H5 := hid (fun W (h : Below w.heap.size w W) => count_ok size 0 size a cap l W (hr.below h (Nat.le_refl _)) hk (by omega) (by omega) (by omega))
  rw [cb_zero s4, cb_in s1 s4 (by omega) (Int.le_refl _), Int.sub_zero] at H5
  have q4 := cb_pos s1 s4 (t := size) (by omega)
  rw [cb_in s1 s4 (by omega) (Int.le_refl _)] at q4
  obtain ⟨q5, q6⟩ := q4
  clear he he2 hr hk s4
  generalize leastV size l n = A at *
  generalize mostV size l n = M at *
  generalize cnt l size = L at *
  go_enter Try.func7, Try.ntmps7
  go_wp2_with fail
  refine (H1.out _ (by go_grown)).mono ?_
  rintro e w1 ⟨rfl, b⟩
  have HB1 : Hid (Below (w.heap.size + 1) (w.alloc (.cells #[.int .i64 size, .slice a l.length cap] 24)) w1) := box1 b
  clear b
  have c1 : w1.cell? ⟨w.heap.size, 0, none⟩ = some (.int .i64 size) := boxc HB1.out 0
  have c2 : w1.cell? ⟨w.heap.size, 1, none⟩ = some (.slice a l.length cap) := boxc HB1.out 1
  go_wp2_with fail
  refine (H2.out _ (of_alloc HB1.out)).mono ?_
  rintro e w2 ⟨rfl, b⟩
  have HB2 : Hid (Below (w.heap.size + 1) (w.alloc (.cells #[.int .i64 size, .slice a l.length cap] 24)) w2) := box2 HB1.out b
  clear b c1 c2
  have c1 : w2.cell? ⟨w.heap.size, 0, none⟩ = some (.int .i64 size) := boxc HB2.out 0
  have c2 : w2.cell? ⟨w.heap.size, 1, none⟩ = some (.slice a l.length cap) := boxc HB2.out 1
  go_wp2_with fail
  refine ((fun (_ : Below w.heap.size w _) => slives _) (of_alloc HB2.out)).mono ?_
  rintro e w3 ⟨rfl, b⟩
  have HB3 : Hid (Below (w.heap.size + 1) (w.alloc (.cells #[.int .i64 size, .slice a l.length cap] 24)) w3) := box2 HB2.out b
  clear b c1 c2
  have c1 : w3.cell? ⟨w.heap.size, 0, none⟩ = some (.int .i64 size) := boxc HB3.out 0
  have c2 : w3.cell? ⟨w.heap.size, 1, none⟩ = some (.slice a l.length cap) := boxc HB3.out 1
  go_wp2_with fail
  refine (H3.out _ (of_alloc HB3.out)).mono ?_
  rintro e w4 ⟨rfl, b⟩
  have HB4 : Hid (Below (w.heap.size + 1) (w.alloc (.cells #[.int .i64 size, .slice a l.length cap] 24)) w4) := box2 HB3.out b
  clear b c1 c2
  have c1 : w4.cell? ⟨w.heap.size, 0, none⟩ = some (.int .i64 size) := boxc HB4.out 0
  have c2 : w4.cell? ⟨w.heap.size, 1, none⟩ = some (.slice a l.length cap) := boxc HB4.out 1
  go_wp2_with fail
  refine (H4.out _ (of_alloc HB4.out)).mono ?_
  rintro e w5 ⟨rfl, b⟩
  have HB5 : Hid (Below (w.heap.size + 1) (w.alloc (.cells #[.int .i64 size, .slice a l.length cap] 24)) w5) := box2 HB4.out b
  clear b c1 c2
  have c1 : w5.cell? ⟨w.heap.size, 0, none⟩ = some (.int .i64 size) := boxc HB5.out 0
  have c2 : w5.cell? ⟨w.heap.size, 1, none⟩ = some (.slice a l.length cap) := boxc HB5.out 1
  go_wp2_with fail
  refine (H5.out _ (of_alloc HB5.out)).mono ?_
  rintro e w6 ⟨rfl, b⟩
  have HB6 : Hid (Below (w.heap.size + 1) (w.alloc (.cells #[.int .i64 size, .slice a l.length cap] 24)) w6) := box2 HB5.out b
  clear b c1 c2
  have c1 : w6.cell? ⟨w.heap.size, 0, none⟩ = some (.int .i64 size) := boxc HB6.out 0
  have c2 : w6.cell? ⟨w.heap.size, 1, none⟩ = some (.slice a l.length cap) := boxc HB6.out 1
  go_wp2_with fail
  go_ret
  exact ⟨by first | rfl | simp, of_alloc HB6.out⟩
theorem supplyFrame_walk (size : Int) (a : Option Addr) (len cap : Nat) (l : List Sp) (n : Int) (w : World) (hs : wf64 size) (h : IsSps w a len cap l) (hn : wf64 n) :
    Calls Try.prog 7 #[.agg #[.int .i64 size, .slice a len cap], .int .i64 n] w fun e w' => e = .returned (.bool true) ∧ Below w.heap.size w w' := by
  obtain ⟨rfl, h1, h2, hr, _, _⟩ := h
  by_cases he : leastE size l n = 0
  · by_cases hn : n ≤ 549755813888 - size
    · exact frame_ok size n a cap l w hr he hn
    · exact frame_far size n a cap l w hr he (by omega)
  · exact frame_err size n a cap l w hr he
end SpanC
end Go.Proofs.Ytepnlfnnancnfaa
