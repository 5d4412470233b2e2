/- The walk of SupplyAdds. -/
import Derived.Test.YtepnlfnnancnfaaSupL
set_option linter.unusedVariables false
namespace Go.Proofs.Ytepnlfnnancnfaa
open Go.RowKit
open SpanM SupM
namespace SpanC
set_option maxHeartbeats 1000000 in
theorem adds_0 (size n m : Int) (a : Option Addr) (cap : Nat) (l : List Sp) (w : World) (hr : Sps w a l) (d : n < 0) :
    Calls Try.prog 6 #[.agg #[.int .i64 size, .slice a l.length cap], .int .i64 n, .int .i64 m] w fun e w' => e = .returned (.bool true) ∧ Below w.heap.size w w' := by
  clear hr
  go_enter Try.func6, Try.ntmps6
  go_wp2_with fail
  refine ((fun (_ : Below w.heap.size w _) => slives _) (by go_grown)).mono ?_
  rintro e w1 ⟨rfl, b⟩
  have HB1 : Hid (Below (w.heap.size + 1) (w.alloc (.cells #[.int .i64 size, .slice a l.length cap] 24)) w1) := box1 b
  clear b
  have c1 : w1.cell? ⟨w.heap.size, 0, none⟩ = some (.int .i64 size) := boxc HB1.out 0
  have c2 : w1.cell? ⟨w.heap.size, 1, none⟩ = some (.slice a l.length cap) := boxc HB1.out 1
  go_wp2_with fail
  go_ret
  exact ⟨by first | rfl | simp, of_alloc HB1.out⟩
set_option maxHeartbeats 1000000 in
theorem adds_1 (size n m : Int) (a : Option Addr) (cap : Nat) (l : List Sp) (w : World) (hr : Sps w a l) (d0 : ¬ n < 0) (d : m < 0) :
    Calls Try.prog 6 #[.agg #[.int .i64 size, .slice a l.length cap], .int .i64 n, .int .i64 m] w fun e w' => e = .returned (.bool true) ∧ Below w.heap.size w w' := by
  clear hr
  go_enter Try.func6, Try.ntmps6
  go_wp2_with fail
  refine ((fun (_ : Below w.heap.size w _) => slives _) (by go_grown)).mono ?_
  rintro e w1 ⟨rfl, b⟩
  have HB1 : Hid (Below (w.heap.size + 1) (w.alloc (.cells #[.int .i64 size, .slice a l.length cap] 24)) w1) := box1 b
  clear b
  have c1 : w1.cell? ⟨w.heap.size, 0, none⟩ = some (.int .i64 size) := boxc HB1.out 0
  have c2 : w1.cell? ⟨w.heap.size, 1, none⟩ = some (.slice a l.length cap) := boxc HB1.out 1
  go_wp2_with fail
  go_ret
  exact ⟨by first | rfl | simp, of_alloc HB1.out⟩
set_option maxHeartbeats 1000000 in
theorem adds_2 (size n m : Int) (a : Option Addr) (cap : Nat) (l : List Sp) (w : World) (hr : Sps w a l) (d0 : ¬ n < 0) (d1 : ¬ m < 0) (d : 274877906944 < n) :
    Calls Try.prog 6 #[.agg #[.int .i64 size, .slice a l.length cap], .int .i64 n, .int .i64 m] w fun e w' => e = .returned (.bool true) ∧ Below w.heap.size w w' := by
  clear hr
  go_enter Try.func6, Try.ntmps6
  go_wp2_with fail
  refine ((fun (_ : Below w.heap.size w _) => slives _) (by go_grown)).mono ?_
  rintro e w1 ⟨rfl, b⟩
  have HB1 : Hid (Below (w.heap.size + 1) (w.alloc (.cells #[.int .i64 size, .slice a l.length cap] 24)) w1) := box1 b
  clear b
  have c1 : w1.cell? ⟨w.heap.size, 0, none⟩ = some (.int .i64 size) := boxc HB1.out 0
  have c2 : w1.cell? ⟨w.heap.size, 1, none⟩ = some (.slice a l.length cap) := boxc HB1.out 1
  go_wp2_with fail
  go_ret
  exact ⟨by first | rfl | simp, of_alloc HB1.out⟩
set_option maxHeartbeats 1000000 in
theorem adds_3 (size n m : Int) (a : Option Addr) (cap : Nat) (l : List Sp) (w : World) (hr : Sps w a l) (d0 : ¬ n < 0) (d1 : ¬ m < 0) (d2 : ¬ 274877906944 < n) (d : 274877906944 < m) :
    Calls Try.prog 6 #[.agg #[.int .i64 size, .slice a l.length cap], .int .i64 n, .int .i64 m] w fun e w' => e = .returned (.bool true) ∧ Below w.heap.size w w' := by
  clear hr
  go_enter Try.func6, Try.ntmps6
  go_wp2_with fail
  refine ((fun (_ : Below w.heap.size w _) => slives _) (by go_grown)).mono ?_
  rintro e w1 ⟨rfl, b⟩
  have HB1 : Hid (Below (w.heap.size + 1) (w.alloc (.cells #[.int .i64 size, .slice a l.length cap] 24)) w1) := box1 b
  clear b
  have c1 : w1.cell? ⟨w.heap.size, 0, none⟩ = some (.int .i64 size) := boxc HB1.out 0
  have c2 : w1.cell? ⟨w.heap.size, 1, none⟩ = some (.slice a l.length cap) := boxc HB1.out 1
  go_wp2_with fail
  go_ret
  exact ⟨by first | rfl | simp, of_alloc HB1.out⟩
set_option maxHeartbeats 1000000 in
theorem adds_err (size n m : Int) (a : Option Addr) (cap : Nat) (l : List Sp) (w : World) (hr : Sps w a l) (d0 : 0 ≤ n) (d1 : 0 ≤ m) (d2 : n ≤ 274877906944) (d3 : m ≤ 274877906944) (he : leastE size l n ≠ 0) :
    Calls Try.prog 6 #[.agg #[.int .i64 size, .slice a l.length cap], .int .i64 n, .int .i64 m] w fun e w' => e = .returned (.bool true) ∧ Below w.heap.size w w' := by
  have H1 := hid (fun W (h : Below w.heap.size w W) => least_any size n a cap l W (hr.below h (Nat.le_refl _)))
  have H2 := hid (fun W (h : Below w.heap.size w W) => least_any size m a cap l W (hr.below h (Nat.le_refl _)))
  have H3 := hid (fun W (h : Below w.heap.size w W) => least_any size (n + m) a cap l W (hr.below h (Nat.le_refl _)))
  have H4 := hid (fun W (h : Below w.heap.size w W) => least_any size (n + 1) a cap l W (hr.below h (Nat.le_refl _)))
  have H5 := hid (fun W (h : Below w.heap.size w W) => most_any size n a cap l W (hr.below h (Nat.le_refl _)))
  have H6 := hid (fun W (h : Below w.heap.size w W) => most_any size m a cap l W (hr.below h (Nat.le_refl _)))
  have H7 := hid (fun W (h : Below w.heap.size w W) => most_any size (n + m) a cap l W (hr.below h (Nat.le_refl _)))
  have hne : (leastE size l n != 0) = true := by simp [he]
  clear he hr
  generalize leastV size l n = A0 at *
  generalize leastE size l n = E0 at *
  generalize leastV size l m = A1 at *
  generalize leastE size l m = E1 at *
  generalize leastV size l (n + m) = A2 at *
  generalize leastE size l (n + m) = E2 at *
  generalize leastV size l (n + 1) = A3 at *
  generalize leastE size l (n + 1) = E3 at *
  generalize mostV size l n = M0 at *
  generalize mostV size l m = M1 at *
  generalize mostV size l (n + m) = M2 at *
  go_enter Try.func6, Try.ntmps6
  go_wp2_with fail
  refine (H1.out _ (by go_grown)).mono ?_
  rintro e w1 ⟨rfl, b⟩
  have HB1 : Hid (Below (w.heap.size + 1) (w.alloc (.cells #[.int .i64 size, .slice a l.length cap] 24)) w1) := box1 b
  clear b
  have c1 : w1.cell? ⟨w.heap.size, 0, none⟩ = some (.int .i64 size) := boxc HB1.out 0
  have c2 : w1.cell? ⟨w.heap.size, 1, none⟩ = some (.slice a l.length cap) := boxc HB1.out 1
  go_wp2_with fail
  refine (H2.out _ (of_alloc HB1.out)).mono ?_
  rintro e w2 ⟨rfl, b⟩
  have HB2 : Hid (Below (w.heap.size + 1) (w.alloc (.cells #[.int .i64 size, .slice a l.length cap] 24)) w2) := box2 HB1.out b
  clear b c1 c2
  have c1 : w2.cell? ⟨w.heap.size, 0, none⟩ = some (.int .i64 size) := boxc HB2.out 0
  have c2 : w2.cell? ⟨w.heap.size, 1, none⟩ = some (.slice a l.length cap) := boxc HB2.out 1
  go_wp2_with fail
  refine (H3.out _ (of_alloc HB2.out)).mono ?_
  rintro e w3 ⟨rfl, b⟩
  have HB3 : Hid (Below (w.heap.size + 1) (w.alloc (.cells #[.int .i64 size, .slice a l.length cap] 24)) w3) := box2 HB2.out b
  clear b c1 c2
  have c1 : w3.cell? ⟨w.heap.size, 0, none⟩ = some (.int .i64 size) := boxc HB3.out 0
  have c2 : w3.cell? ⟨w.heap.size, 1, none⟩ = some (.slice a l.length cap) := boxc HB3.out 1
  go_wp2_with fail
  refine (H4.out _ (of_alloc HB3.out)).mono ?_
  rintro e w4 ⟨rfl, b⟩
  have HB4 : Hid (Below (w.heap.size + 1) (w.alloc (.cells #[.int .i64 size, .slice a l.length cap] 24)) w4) := box2 HB3.out b
  clear b c1 c2
  have c1 : w4.cell? ⟨w.heap.size, 0, none⟩ = some (.int .i64 size) := boxc HB4.out 0
  have c2 : w4.cell? ⟨w.heap.size, 1, none⟩ = some (.slice a l.length cap) := boxc HB4.out 1
  go_wp2_with fail
  refine (H5.out _ (of_alloc HB4.out)).mono ?_
  rintro e w5 ⟨rfl, b⟩
  have HB5 : Hid (Below (w.heap.size + 1) (w.alloc (.cells #[.int .i64 size, .slice a l.length cap] 24)) w5) := box2 HB4.out b
  clear b c1 c2
  have c1 : w5.cell? ⟨w.heap.size, 0, none⟩ = some (.int .i64 size) := boxc HB5.out 0
  have c2 : w5.cell? ⟨w.heap.size, 1, none⟩ = some (.slice a l.length cap) := boxc HB5.out 1
  go_wp2_with fail
  refine (H6.out _ (of_alloc HB5.out)).mono ?_
  rintro e w6 ⟨rfl, b⟩
  have HB6 : Hid (Below (w.heap.size + 1) (w.alloc (.cells #[.int .i64 size, .slice a l.length cap] 24)) w6) := box2 HB5.out b
  clear b c1 c2
  have c1 : w6.cell? ⟨w.heap.size, 0, none⟩ = some (.int .i64 size) := boxc HB6.out 0
  have c2 : w6.cell? ⟨w.heap.size, 1, none⟩ = some (.slice a l.length cap) := boxc HB6.out 1
  go_wp2_with fail
  refine (H7.out _ (of_alloc HB6.out)).mono ?_
  rintro e w7 ⟨rfl, b⟩
  have HB7 : Hid (Below (w.heap.size + 1) (w.alloc (.cells #[.int .i64 size, .slice a l.length cap] 24)) w7) := box2 HB6.out b
  clear b c1 c2
  have c1 : w7.cell? ⟨w.heap.size, 0, none⟩ = some (.int .i64 size) := boxc HB7.out 0
  have c2 : w7.cell? ⟨w.heap.size, 1, none⟩ = some (.slice a l.length cap) := boxc HB7.out 1
  go_wp2_with fail
  refine ((fun (_ : Below w.heap.size w _) => slives _) (of_alloc HB7.out)).mono ?_
  rintro e w8 ⟨rfl, b⟩
  have HB8 : Hid (Below (w.heap.size + 1) (w.alloc (.cells #[.int .i64 size, .slice a l.length cap] 24)) w8) := box2 HB7.out b
  clear b c1 c2
  have c1 : w8.cell? ⟨w.heap.size, 0, none⟩ = some (.int .i64 size) := boxc HB8.out 0
  have c2 : w8.cell? ⟨w.heap.size, 1, none⟩ = some (.slice a l.length cap) := boxc HB8.out 1
  go_wp2_with fail
  refine ((fun (_ : Below w.heap.size w _) => slives _) (of_alloc HB8.out)).mono ?_
  rintro e w9 ⟨rfl, b⟩
  have HB9 : Hid (Below (w.heap.size + 1) (w.alloc (.cells #[.int .i64 size, .slice a l.length cap] 24)) w9) := box2 HB8.out b
  clear b c1 c2
  have c1 : w9.cell? ⟨w.heap.size, 0, none⟩ = some (.int .i64 size) := boxc HB9.out 0
  have c2 : w9.cell? ⟨w.heap.size, 1, none⟩ = some (.slice a l.length cap) := boxc HB9.out 1
  go_wp2_with fail
  go_ret
  exact ⟨by first | rfl | simp, of_alloc HB9.out⟩
set_option maxHeartbeats 1000000 in
theorem adds_ok (size n m : Int) (a : Option Addr) (cap : Nat) (l : List Sp) (w : World) (hr : Sps w a l) (d0 : 0 ≤ n) (d1 : 0 ≤ m) (d2 : n ≤ 274877906944) (d3 : m ≤ 274877906944) (hk : chk size l = 0) :
    Calls Try.prog 6 #[.agg #[.int .i64 size, .slice a l.length cap], .int .i64 n, .int .i64 m] w fun e w' => e = .returned (.bool true) ∧ Below w.heap.size w w' := by
  have H1 := hid (fun W (h : Below w.heap.size w W) => least_any size n a cap l W (hr.below h (Nat.le_refl _)))
  have H2 := hid (fun W (h : Below w.heap.size w W) => least_any size m a cap l W (hr.below h (Nat.le_refl _)))
  have H3 := hid (fun W (h : Below w.heap.size w W) => least_any size (n + m) a cap l W (hr.below h (Nat.le_refl _)))
  have H4 := hid (fun W (h : Below w.heap.size w W) => least_any size (n + 1) a cap l W (hr.below h (Nat.le_refl _)))
  have H5 := hid (fun W (h : Below w.heap.size w W) => most_any size n a cap l W (hr.below h (Nat.le_refl _)))
  have H6 := hid (fun W (h : Below w.heap.size w W) => most_any size m a cap l W (hr.below h (Nat.le_refl _)))
  have H7 := hid (fun W (h : Below w.heap.size w W) => most_any size (n + m) a cap l W (hr.below h (Nat.le_refl _)))
  obtain ⟨s1, s2, s3, s4⟩ := chk_zero hk
  have e0 : leastE size l n = 0 := sE_of hk (by omega) (by omega)
  have e1 : leastE size l m = 0 := sE_of hk (by omega) (by omega)
  have e2 : leastE size l (n + m) = 0 := sE_of hk (by omega) (by omega)
  have e3 : leastE size l (n + 1) = 0 := sE_of hk (by omega) (by omega)
  have p1 := (leastV_P e0).adds d0 (leastV_P e1) (leastV_P e2)
  have p2 := (mostV_P e0).adds d0 (mostV_P e1) (mostV_P e2)
  obtain ⟨p3, p4⟩ := (leastV_P e0).more s1 s4 d0 (leastV_P e3)
  obtain ⟨q00, q01, q02, q03⟩ := leastV_bd (size := size) (l := l) (n := n)
  obtain ⟨q10, q11, q12, q13⟩ := leastV_bd (size := size) (l := l) (n := m)
  obtain ⟨q20, q21, q22, q23⟩ := leastV_bd (size := size) (l := l) (n := (n + m))
  obtain ⟨q30, q31, q32, q33⟩ := leastV_bd (size := size) (l := l) (n := (n + 1))
  rw [e0] at H1 H5
  rw [e1] at H2 H6
  rw [e2] at H3 H7
  rw [e3] at H4
  clear hr hk s4 e0 e1 e2 e3
  generalize leastV size l n = A0 at *
  generalize mostV size l n = M0 at *
  generalize leastV size l m = A1 at *
  generalize mostV size l m = M1 at *
  generalize leastV size l (n + m) = A2 at *
  generalize mostV size l (n + m) = M2 at *
  generalize leastV size l (n + 1) = A3 at *
  generalize mostV size l (n + 1) = M3 at *
  go_enter Try.func6, Try.ntmps6
  go_wp2_with fail
  refine (H1.out _ (by go_grown)).mono ?_
  rintro e w1 ⟨rfl, b⟩
  have HB1 : Hid (Below (w.heap.size + 1) (w.alloc (.cells #[.int .i64 size, .slice a l.length cap] 24)) w1) := box1 b
  clear b
  have c1 : w1.cell? ⟨w.heap.size, 0, none⟩ = some (.int .i64 size) := boxc HB1.out 0
  have c2 : w1.cell? ⟨w.heap.size, 1, none⟩ = some (.slice a l.length cap) := boxc HB1.out 1
  go_wp2_with fail
  refine (H2.out _ (of_alloc HB1.out)).mono ?_
  rintro e w2 ⟨rfl, b⟩
  have HB2 : Hid (Below (w.heap.size + 1) (w.alloc (.cells #[.int .i64 size, .slice a l.length cap] 24)) w2) := box2 HB1.out b
  clear b c1 c2
  have c1 : w2.cell? ⟨w.heap.size, 0, none⟩ = some (.int .i64 size) := boxc HB2.out 0
  have c2 : w2.cell? ⟨w.heap.size, 1, none⟩ = some (.slice a l.length cap) := boxc HB2.out 1
  go_wp2_with fail
  refine (H3.out _ (of_alloc HB2.out)).mono ?_
  rintro e w3 ⟨rfl, b⟩
  have HB3 : Hid (Below (w.heap.size + 1) (w.alloc (.cells #[.int .i64 size, .slice a l.length cap] 24)) w3) := box2 HB2.out b
  clear b c1 c2
  have c1 : w3.cell? ⟨w.heap.size, 0, none⟩ = some (.int .i64 size) := boxc HB3.out 0
  have c2 : w3.cell? ⟨w.heap.size, 1, none⟩ = some (.slice a l.length cap) := boxc HB3.out 1
  go_wp2_with fail
  refine (H4.out _ (of_alloc HB3.out)).mono ?_
  rintro e w4 ⟨rfl, b⟩
  have HB4 : Hid (Below (w.heap.size + 1) (w.alloc (.cells #[.int .i64 size, .slice a l.length cap] 24)) w4) := box2 HB3.out b
  clear b c1 c2
  have c1 : w4.cell? ⟨w.heap.size, 0, none⟩ = some (.int .i64 size) := boxc HB4.out 0
  have c2 : w4.cell? ⟨w.heap.size, 1, none⟩ = some (.slice a l.length cap) := boxc HB4.out 1
  go_wp2_with fail
  refine (H5.out _ (of_alloc HB4.out)).mono ?_
  rintro e w5 ⟨rfl, b⟩
  have HB5 : Hid (Below (w.heap.size + 1) (w.alloc (.cells #[.int .i64 size, .slice a l.length cap] 24)) w5) := box2 HB4.out b
  clear b c1 c2
  have c1 : w5.cell? ⟨w.heap.size, 0, none⟩ = some (.int .i64 size) := boxc HB5.out 0
  have c2 : w5.cell? ⟨w.heap.size, 1, none⟩ = some (.slice a l.length cap) := boxc HB5.out 1
  go_wp2_with fail
  refine (H6.out _ (of_alloc HB5.out)).mono ?_
  rintro e w6 ⟨rfl, b⟩
  have HB6 : Hid (Below (w.heap.size + 1) (w.alloc (.cells #[.int .i64 size, .slice a l.length cap] 24)) w6) := box2 HB5.out b
  clear b c1 c2
  have c1 : w6.cell? ⟨w.heap.size, 0, none⟩ = some (.int .i64 size) := boxc HB6.out 0
  have c2 : w6.cell? ⟨w.heap.size, 1, none⟩ = some (.slice a l.length cap) := boxc HB6.out 1
  go_wp2_with fail
  refine (H7.out _ (of_alloc HB6.out)).mono ?_
  rintro e w7 ⟨rfl, b⟩
  have HB7 : Hid (Below (w.heap.size + 1) (w.alloc (.cells #[.int .i64 size, .slice a l.length cap] 24)) w7) := box2 HB6.out b
  clear b c1 c2
  have c1 : w7.cell? ⟨w.heap.size, 0, none⟩ = some (.int .i64 size) := boxc HB7.out 0
  have c2 : w7.cell? ⟨w.heap.size, 1, none⟩ = some (.slice a l.length cap) := boxc HB7.out 1
  go_wp2_with fail
  refine ((fun (_ : Below w.heap.size w _) => slives _) (of_alloc HB7.out)).mono ?_
  rintro e w8 ⟨rfl, b⟩
  have HB8 : Hid (Below (w.heap.size + 1) (w.alloc (.cells #[.int .i64 size, .slice a l.length cap] 24)) w8) := box2 HB7.out b
  clear b c1 c2
  have c1 : w8.cell? ⟨w.heap.size, 0, none⟩ = some (.int .i64 size) := boxc HB8.out 0
  have c2 : w8.cell? ⟨w.heap.size, 1, none⟩ = some (.slice a l.length cap) := boxc HB8.out 1
  go_wp2_with fail
  go_ret
  exact ⟨by first | rfl | simp, of_alloc HB8.out⟩
theorem supplyAdds_walk (size : Int) (a : Option Addr) (len cap : Nat) (l : List Sp) (n m : Int) (w : World) (hs : wf64 size) (h : IsSps w a len cap l) (hn : wf64 n) (hm : wf64 m) :
    Calls Try.prog 6 #[.agg #[.int .i64 size, .slice a len cap], .int .i64 n, .int .i64 m] w fun e w' => e = .returned (.bool true) ∧ Below w.heap.size w w' := by
  obtain ⟨rfl, h1, h2, hr, _, _⟩ := h
  by_cases d0 : n < 0
  · exact adds_0 size n m a cap l w hr d0
  · by_cases d1 : m < 0
    · exact adds_1 size n m a cap l w hr d0 d1
    · by_cases d2 : 274877906944 < n
      · exact adds_2 size n m a cap l w hr d0 d1 d2
      · by_cases d3 : 274877906944 < m
        · exact adds_3 size n m a cap l w hr d0 d1 d2 d3
        · by_cases hk : chk size l = 0
          · exact adds_ok size n m a cap l w hr (by omega) (by omega) (by omega) (by omega) hk
          · refine adds_err size n m a cap l w hr (by omega) (by omega) (by omega) (by omega) ?_
            intro h
            exact hk (least_zero h).1
end SpanC
end Go.Proofs.Ytepnlfnnancnfaa
