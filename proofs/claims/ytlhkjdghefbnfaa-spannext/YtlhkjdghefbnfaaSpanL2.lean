/- The walks of SpanNext and SpanCount. -/
import Derived.Test.YtlhkjdghefbnfaaSpanV
import Derived.Test.YtlhkjdghefbnfaaSpanO
set_option linter.unusedVariables false
namespace Go.Proofs.Ytlhkjdghefbnfaa
open Go.RowKit
open SpanM
namespace SpanC
theorem cb_next {size t n : Int} {l : List Sp} (h1 : 1 ≤ size) (h2 : good size (-1) l = true) (ht : 0 ≤ t) (h : NextP size l t n) : cb size l n = cb size l t := by
  obtain ⟨n1, n2, n3, n4⟩ := h
  have e1 := cb_num h1 h2 n.toNat
  have e2 := cb_num h1 h2 t.toNat
  rw [Int.toNat_of_nonneg (by omega)] at e1 e2
  rw [e1, e2]
  refine num_none _ _ _ (by omega) fun u a b => ?_
  exact n4 u (by omega) (by omega)
theorem next_self {size t n : Int} {l : List Sp} (h1 : 1 ≤ size) (h : NextP size l t n) : NextP size l n n :=
  ⟨by omega, by omega, h.2.2.1, fun u a b => by omega⟩
set_option maxHeartbeats 400000 in
theorem nextLaw_err (size t E : Int) (a : Option Addr) (cap : Nat) (l : List Sp) (w : World) (hE : E ≠ 0)
    (hN : ∀ W, Below w.heap.size w W → Calls Try.prog 29 #[.agg #[.int .i64 size, .slice a l.length cap], .int .i64 t] W fun e w' => e = .returned (.tuple #[.int .i64 0, .int .i64 E]) ∧ Below W.heap.size W w') :
    Calls Try.prog 9 #[.agg #[.int .i64 size, .slice a l.length cap], .int .i64 t] w fun e w' => e = .returned (.bool true) ∧ Below w.heap.size w w' := by
  have hne : (E != 0) = true := by simp [hE]
  have H1 := hid hN
  clear hN hE
  go_enter Try.func9, Try.ntmps9
  go_wp2_with fail
  refine (H1.out _ (by go_grown)).mono ?_
  rintro e w1 ⟨rfl, b1⟩
  have HB1 : Hid (Below (w.heap.size + 1) (w.alloc (.cells #[.int .i64 size, .slice a l.length cap] 24)) w1) := box1 b1
  clear b1
  have c1 : w1.cell? ⟨w.heap.size, 0, none⟩ = some (.int .i64 size) := boxc HB1.out 0
  have c2 : w1.cell? ⟨w.heap.size, 1, none⟩ = some (.slice a l.length cap) := boxc HB1.out 1
  go_wp2_with fail
  refine (lives _).mono ?_
  rintro e w2 ⟨rfl, b2⟩
  have HB2 : Hid (Below (w.heap.size + 1) (w.alloc (.cells #[.int .i64 size, .slice a l.length cap] 24)) w2) := box2 HB1.out b2
  clear b2 c1 c2
  have c1 : w2.cell? ⟨w.heap.size, 0, none⟩ = some (.int .i64 size) := boxc HB2.out 0
  have c2 : w2.cell? ⟨w.heap.size, 1, none⟩ = some (.slice a l.length cap) := boxc HB2.out 1
  go_wp2_with fail
  refine (lives _).mono ?_
  rintro e w3 ⟨rfl, b3⟩
  have HB3 : Hid (Below (w.heap.size + 1) (w.alloc (.cells #[.int .i64 size, .slice a l.length cap] 24)) w3) := box2 HB2.out b3
  clear b3 c1 c2
  have c1 : w3.cell? ⟨w.heap.size, 0, none⟩ = some (.int .i64 size) := boxc HB3.out 0
  have c2 : w3.cell? ⟨w.heap.size, 1, none⟩ = some (.slice a l.length cap) := boxc HB3.out 1
  go_wp2_with fail
  go_ret
  exact ⟨by first | rfl | simp, of_alloc HB3.out⟩
set_option maxHeartbeats 800000 in
theorem nextLaw_ok (size t : Int) (a : Option Addr) (cap : Nat) (l : List Sp) (w : World) (hr : Sps w a l) (hk : chk size l = 0) (t1 : 0 ≤ t) (t2 : t ≤ 1099511627776) (hne : l ≠ []) :
    Calls Try.prog 9 #[.agg #[.int .i64 size, .slice a l.length cap], .int .i64 t] w fun e w' => e = .returned (.bool true) ∧ Below w.heap.size w w' := by
  obtain ⟨s1, s2, s3, s4⟩ := chk_zero hk
  have H1 := hid (fun W (h : Below w.heap.size w W) => next_ok size t a cap l W (hr.below h (Nat.le_refl _)) hk t1 t2 hne)
  have H2 := hid (fun n (h0 : 0 ≤ n) (h1 : n ≤ 1099511627776) W (h : Below w.heap.size w W) => has_ok size n a cap l W (hr.below h (Nat.le_refl _)) hk h0 h1)
  have H3 := hid (fun n (h0 : t ≤ n) (h1 : n ≤ 1099511627776) W (h : Below w.heap.size w W) => count_ok size t n a cap l W (hr.below h (Nat.le_refl _)) hk t1 h0 h1)
  have H4 := hid (fun n (h0 : 0 ≤ n) (h1 : n ≤ 1099511627776) W (h : Below w.heap.size w W) => next_ok size n a cap l W (hr.below h (Nat.le_refl _)) hk h0 h1 hne)
  have HS := hid s4
  clear hr hk hne s4
  go_enter Try.func9, Try.ntmps9
  go_wp2_with fail
  refine (H1.out _ (by go_grown)).mono ?_
  rintro e w1 ⟨n, rfl, hn, b1⟩
  have HN := hid hn
  have n1 := hn.1
  have n2 := hn.2.1
  clear hn
  have HB1 : Hid (Below (w.heap.size + 1) (w.alloc (.cells #[.int .i64 size, .slice a l.length cap] 24)) w1) := box1 b1
  clear b1
  have c1 : w1.cell? ⟨w.heap.size, 0, none⟩ = some (.int .i64 size) := boxc HB1.out 0
  have c2 : w1.cell? ⟨w.heap.size, 1, none⟩ = some (.slice a l.length cap) := boxc HB1.out 1
  go_wp2_with fail
  refine (lives _).mono ?_
  rintro e w2 ⟨rfl, b2⟩
  have HB2 : Hid (Below (w.heap.size + 1) (w.alloc (.cells #[.int .i64 size, .slice a l.length cap] 24)) w2) := box2 HB1.out b2
  clear b2 c1 c2
  have c1 : w2.cell? ⟨w.heap.size, 0, none⟩ = some (.int .i64 size) := boxc HB2.out 0
  have c2 : w2.cell? ⟨w.heap.size, 1, none⟩ = some (.slice a l.length cap) := boxc HB2.out 1
  by_cases n3 : n ≤ 1099511627776
  · have hm : mem l (n % size) = true := HN.out.2.2.1
    have hc : cb size l n - cb size l t = 0 := by rw [cb_next s1 HS.out t1 HN.out]; omega
    have K2 := hid (H2.out n (by omega) n3)
    have K3 := hid (H3.out n n1 n3)
    rw [hm] at K2
    rw [hc] at K3
    clear hm hc
    go_wp2_with fail
    refine (K2.out _ (of_alloc HB2.out)).mono ?_
    rintro e w3 ⟨rfl, b3⟩
    have HB3 : Hid (Below (w.heap.size + 1) (w.alloc (.cells #[.int .i64 size, .slice a l.length cap] 24)) w3) := box2 HB2.out b3
    clear b3 c1 c2
    have c1 : w3.cell? ⟨w.heap.size, 0, none⟩ = some (.int .i64 size) := boxc HB3.out 0
    have c2 : w3.cell? ⟨w.heap.size, 1, none⟩ = some (.slice a l.length cap) := boxc HB3.out 1
    go_wp2_with fail
    refine (K3.out _ (of_alloc HB3.out)).mono ?_
    rintro e w4 ⟨rfl, b4⟩
    have HB4 : Hid (Below (w.heap.size + 1) (w.alloc (.cells #[.int .i64 size, .slice a l.length cap] 24)) w4) := box2 HB3.out b4
    clear b4 c1 c2
    have c1 : w4.cell? ⟨w.heap.size, 0, none⟩ = some (.int .i64 size) := boxc HB4.out 0
    have c2 : w4.cell? ⟨w.heap.size, 1, none⟩ = some (.slice a l.length cap) := boxc HB4.out 1
    go_wp2_with fail
    refine (H4.out n (by omega) n3 _ (of_alloc HB4.out)).mono ?_
    rintro e w5 ⟨m, rfl, hm, b5⟩
    obtain rfl : m = n := hm.unique (next_self s1 HN.out)
    clear hm
    have HB5 : Hid (Below (w.heap.size + 1) (w.alloc (.cells #[.int .i64 size, .slice a l.length cap] 24)) w5) := box2 HB4.out b5
    clear b5 c1 c2
    have c1 : w5.cell? ⟨w.heap.size, 0, none⟩ = some (.int .i64 size) := boxc HB5.out 0
    have c2 : w5.cell? ⟨w.heap.size, 1, none⟩ = some (.slice a l.length cap) := boxc HB5.out 1
    go_wp2_with fail
    go_ret
    exact ⟨by first | rfl | simp, of_alloc HB5.out⟩
  · have n4 : (1099511627776 : Int) < n := by omega
    go_wp2_with fail
    go_ret
    exact ⟨by first | rfl | simp, of_alloc HB2.out⟩
theorem spanNext_walk (size : Int) (a : Option Addr) (len cap : Nat) (l : List Sp) (t : Int) (w : World) (hs : wf64 size) (h : IsSps w a len cap l) (ht : wf64 t) :
    Calls Try.prog 9 #[.agg #[.int .i64 size, .slice a len cap], .int .i64 t] w fun e w' => e = .returned (.bool true) ∧ Below w.heap.size w w' := by
  obtain ⟨rfl, h1, h2, hr, _, _⟩ := h
  by_cases hk : chk size l = 0
  · by_cases t1 : 0 ≤ t ∧ t ≤ 1099511627776
    · by_cases he : l = []
      · refine nextLaw_err size t 7 a cap l w (by omega) fun W hb => ?_
        subst he
        exact next_none size t a cap W hk t1.1 t1.2
      · exact nextLaw_ok size t a cap l w hr hk t1.1 t1.2 he
    · exact nextLaw_err size t 1 a cap l w (by omega) fun W hb => next_arg size t a cap l W (hr.below hb (Nat.le_refl _)) hk t1
  · exact nextLaw_err size t _ a cap l w hk fun W hb => next_err size t a cap l W (hr.below hb (Nat.le_refl _)) hk

def cntE (size : Int) (l : List Sp) (f t : Int) : Int := if chk size l = 0 then (if 0 ≤ f ∧ f ≤ t ∧ t ≤ 1099511627776 then 0 else 1) else chk size l
def cntV (size : Int) (l : List Sp) (f t : Int) : Int := if cntE size l f t = 0 then cb size l t - cb size l f else 0
theorem cntE_zero {size : Int} {l : List Sp} {f t : Int} (h : cntE size l f t = 0) : chk size l = 0 ∧ 0 ≤ f ∧ f ≤ t ∧ t ≤ 1099511627776 := by
  unfold cntE at h
  split at h
  · split at h
    · exact ⟨‹_›, ‹_›⟩
    · simp at h
  · exact absurd h ‹_›
theorem count_any (size f t : Int) (a : Option Addr) (cap : Nat) (l : List Sp) (w : World) (hr : Sps w a l) :
    Calls Try.prog 30 #[.agg #[.int .i64 size, .slice a l.length cap], .int .i64 f, .int .i64 t] w fun e w' => e = .returned (.tuple #[.int .i64 (cntV size l f t), .int .i64 (cntE size l f t)]) ∧ Below w.heap.size w w' := by
  by_cases hk : chk size l = 0
  · by_cases hb : 0 ≤ f ∧ f ≤ t ∧ t ≤ 1099511627776
    · have e1 : cntE size l f t = 0 := by unfold cntE; rw [if_pos hk, if_pos hb]
      have e2 : cntV size l f t = cb size l t - cb size l f := by unfold cntV; rw [if_pos e1]
      rw [e1, e2]
      exact count_ok size f t a cap l w hr hk hb.1 hb.2.1 hb.2.2
    · have e1 : cntE size l f t = 1 := by unfold cntE; rw [if_pos hk, if_neg hb]
      have e2 : cntV size l f t = 0 := by unfold cntV; rw [if_neg (by rw [e1]; decide)]
      rw [e1, e2]
      exact count_arg size f t a cap l w hr hk hb
  · have e1 : cntE size l f t = chk size l := by unfold cntE; rw [if_neg hk]
    have e2 : cntV size l f t = 0 := by unfold cntV; rw [if_neg (by rw [e1]; exact hk)]
    rw [e1, e2]
    exact count_err size f t a cap l w hr hk
theorem cb_shift {size t : Int} {l : List Sp} (hs : 1 ≤ size) : cb size l (t + size) = cb size l t + cnt l size := by
  unfold cb
  rw [Int.add_emod_right, Int.add_ediv_of_dvd_right (Int.dvd_refl size), Int.ediv_self (by omega), Int.add_mul]
  omega
theorem cb_one {size t : Int} {l : List Sp} (hs : 1 ≤ size) (hg : good size (-1) l = true) (ht : 0 ≤ t) : cb size l (t + 1) - cb size l t = SpanM.one (mem l (t % size)) := by
  have e1 := cb_num hs hg (t.toNat + 1)
  have e2 := cb_num hs hg t.toNat
  rw [show ((t.toNat + 1 : Nat) : Int) = t + 1 by omega] at e1
  rw [Int.toNat_of_nonneg ht] at e2
  rw [e1, e2, num, Int.toNat_of_nonneg ht]
  omega
theorem cb_mono {size f t : Int} {l : List Sp} (hs : 1 ≤ size) (hg : good size (-1) l = true) (hf : 0 ≤ f) (ht : f ≤ t) : 0 ≤ cb size l t - cb size l f ∧ cb size l t - cb size l f ≤ t - f := by
  have e1 := cb_num hs hg t.toNat
  have e2 := cb_num hs hg f.toNat
  rw [Int.toNat_of_nonneg (by omega)] at e1 e2
  rw [e1, e2]
  have := num_bd (fun u => mem l (u % size)) f.toNat t.toNat (by omega)
  omega
set_option maxHeartbeats 400000 in
theorem countLaw_e (size p q r : Int) (a : Option Addr) (cap : Nat) (l : List Sp) (w : World) (hr : Sps w a l) (he : cntE size l p q ≠ 0) :
    Calls Try.prog 8 #[.agg #[.int .i64 size, .slice a l.length cap], .int .i64 p, .int .i64 q, .int .i64 r] w fun e w' => e = .returned (.bool true) ∧ Below w.heap.size w w' := by
  have H1 := hid (fun W (h : Below w.heap.size w W) => count_any size p q a cap l W (hr.below h (Nat.le_refl _)))
  have H2 := hid (fun W (h : Below w.heap.size w W) => count_any size q r a cap l W (hr.below h (Nat.le_refl _)))
  have e0 : cntV size l p q = 0 := by unfold cntV; rw [if_neg he]
  rw [e0] at H1
  have hb : (cntE size l p q != 0) = true := by simp [he]
  have hb2 : (cntE size l p q == 0) = false := by simp [he]
  clear he e0 hr
  generalize cntE size l p q = E at *
  generalize cntE size l q r = F at *
  generalize cntV size l q r = Y at *
  go_enter Try.func8, Try.ntmps8
  go_wp2_with fail
  refine (H1.out _ (by go_grown)).mono ?_
  rintro e w1 ⟨rfl, b1⟩
  have HB1 : Hid (Below (w.heap.size + 1) (w.alloc (.cells #[.int .i64 size, .slice a l.length cap] 24)) w1) := box1 b1
  clear b1
  have c1 : w1.cell? ⟨w.heap.size, 0, none⟩ = some (.int .i64 size) := boxc HB1.out 0
  have c2 : w1.cell? ⟨w.heap.size, 1, none⟩ = some (.slice a l.length cap) := boxc HB1.out 1
  go_wp2_with fail
  refine (H2.out _ (of_alloc HB1.out)).mono ?_
  rintro e w2 ⟨rfl, b2⟩
  have HB2 : Hid (Below (w.heap.size + 1) (w.alloc (.cells #[.int .i64 size, .slice a l.length cap] 24)) w2) := box2 HB1.out b2
  clear b2 c1 c2
  have c1 : w2.cell? ⟨w.heap.size, 0, none⟩ = some (.int .i64 size) := boxc HB2.out 0
  have c2 : w2.cell? ⟨w.heap.size, 1, none⟩ = some (.slice a l.length cap) := boxc HB2.out 1
  go_wp2_with fail
  refine (lives _).mono ?_
  rintro e w3 ⟨rfl, b3⟩
  have HB3 : Hid (Below (w.heap.size + 1) (w.alloc (.cells #[.int .i64 size, .slice a l.length cap] 24)) w3) := box2 HB2.out b3
  clear b3 c1 c2
  have c1 : w3.cell? ⟨w.heap.size, 0, none⟩ = some (.int .i64 size) := boxc HB3.out 0
  have c2 : w3.cell? ⟨w.heap.size, 1, none⟩ = some (.slice a l.length cap) := boxc HB3.out 1
  go_wp2_with fail
  refine (lives _).mono ?_
  rintro e w4 ⟨rfl, b4⟩
  have HB4 : Hid (Below (w.heap.size + 1) (w.alloc (.cells #[.int .i64 size, .slice a l.length cap] 24)) w4) := box2 HB3.out b4
  clear b4 c1 c2
  have c1 : w4.cell? ⟨w.heap.size, 0, none⟩ = some (.int .i64 size) := boxc HB4.out 0
  have c2 : w4.cell? ⟨w.heap.size, 1, none⟩ = some (.slice a l.length cap) := boxc HB4.out 1
  go_wp2_with fail
  go_ret
  exact ⟨by first | rfl | simp, of_alloc HB4.out⟩
set_option maxHeartbeats 400000 in
theorem countLaw_f (size p q r : Int) (a : Option Addr) (cap : Nat) (l : List Sp) (w : World) (hr : Sps w a l) (he : cntE size l p q = 0) (hf : cntE size l q r ≠ 0) :
    Calls Try.prog 8 #[.agg #[.int .i64 size, .slice a l.length cap], .int .i64 p, .int .i64 q, .int .i64 r] w fun e w' => e = .returned (.bool true) ∧ Below w.heap.size w w' := by
  have H1 := hid (fun W (h : Below w.heap.size w W) => count_any size p q a cap l W (hr.below h (Nat.le_refl _)))
  have H2 := hid (fun W (h : Below w.heap.size w W) => count_any size q r a cap l W (hr.below h (Nat.le_refl _)))
  rw [he] at H1
  have hb : (cntE size l q r != 0) = true := by simp [hf]
  clear he hf hr
  generalize cntV size l p q = X at *
  generalize cntE size l q r = F at *
  generalize cntV size l q r = Y at *
  go_enter Try.func8, Try.ntmps8
  go_wp2_with fail
  refine (H1.out _ (by go_grown)).mono ?_
  rintro e w1 ⟨rfl, b1⟩
  have HB1 : Hid (Below (w.heap.size + 1) (w.alloc (.cells #[.int .i64 size, .slice a l.length cap] 24)) w1) := box1 b1
  clear b1
  have c1 : w1.cell? ⟨w.heap.size, 0, none⟩ = some (.int .i64 size) := boxc HB1.out 0
  have c2 : w1.cell? ⟨w.heap.size, 1, none⟩ = some (.slice a l.length cap) := boxc HB1.out 1
  go_wp2_with fail
  refine (H2.out _ (of_alloc HB1.out)).mono ?_
  rintro e w2 ⟨rfl, b2⟩
  have HB2 : Hid (Below (w.heap.size + 1) (w.alloc (.cells #[.int .i64 size, .slice a l.length cap] 24)) w2) := box2 HB1.out b2
  clear b2 c1 c2
  have c1 : w2.cell? ⟨w.heap.size, 0, none⟩ = some (.int .i64 size) := boxc HB2.out 0
  have c2 : w2.cell? ⟨w.heap.size, 1, none⟩ = some (.slice a l.length cap) := boxc HB2.out 1
  go_wp2_with fail
  refine (lives _).mono ?_
  rintro e w3 ⟨rfl, b3⟩
  have HB3 : Hid (Below (w.heap.size + 1) (w.alloc (.cells #[.int .i64 size, .slice a l.length cap] 24)) w3) := box2 HB2.out b3
  clear b3 c1 c2
  have c1 : w3.cell? ⟨w.heap.size, 0, none⟩ = some (.int .i64 size) := boxc HB3.out 0
  have c2 : w3.cell? ⟨w.heap.size, 1, none⟩ = some (.slice a l.length cap) := boxc HB3.out 1
  go_wp2_with fail
  refine (lives _).mono ?_
  rintro e w4 ⟨rfl, b4⟩
  have HB4 : Hid (Below (w.heap.size + 1) (w.alloc (.cells #[.int .i64 size, .slice a l.length cap] 24)) w4) := box2 HB3.out b4
  clear b4 c1 c2
  have c1 : w4.cell? ⟨w.heap.size, 0, none⟩ = some (.int .i64 size) := boxc HB4.out 0
  have c2 : w4.cell? ⟨w.heap.size, 1, none⟩ = some (.slice a l.length cap) := boxc HB4.out 1
  go_wp2_with fail
  go_ret
  exact ⟨by first | rfl | simp, of_alloc HB4.out⟩
set_option maxHeartbeats 1000000 in
theorem countLaw_YY (size p q r : Int) (a : Option Addr) (cap : Nat) (l : List Sp) (w : World) (hr : Sps w a l) (hk : chk size l = 0) (p1 : 0 ≤ p) (p2 : p ≤ q) (p3 : q ≤ r) (p4 : r ≤ 1099511627776) (hz : q + size ≤ 1099511627776) (ho : p + 1 ≤ 1099511627776) :
    Calls Try.prog 8 #[.agg #[.int .i64 size, .slice a l.length cap], .int .i64 p, .int .i64 q, .int .i64 r] w fun e w' => e = .returned (.bool true) ∧ Below w.heap.size w w' := by
  obtain ⟨s1, s2, s3, s4⟩ := chk_zero hk
  have H1 := hid (fun W (h : Below w.heap.size w W) => count_ok size p q a cap l W (hr.below h (Nat.le_refl _)) hk p1 p2 (by omega))
  have H2 := hid (fun W (h : Below w.heap.size w W) => count_ok size q r a cap l W (hr.below h (Nat.le_refl _)) hk (by omega) p3 p4)
  have H3 := hid (fun W (h : Below w.heap.size w W) => count_ok size p r a cap l W (hr.below h (Nat.le_refl _)) hk p1 (by omega) p4)
  have H5 := hid (fun W (h : Below w.heap.size w W) => has_ok size p a cap l W (hr.below h (Nat.le_refl _)) hk p1 (by omega))
  have x1 := cb_mono s1 s4 p1 p2
  have x2 := cb_mono s1 s4 (by omega : 0 ≤ q) p3
  have e3 : cb size l r - cb size l p = (cb size l q - cb size l p) + (cb size l r - cb size l q) := by omega
  rw [e3] at H3
  clear e3
  have H4 := hid (fun W (h : Below w.heap.size w W) => count_ok size (p + size) (q + size) a cap l W (hr.below h (Nat.le_refl _)) hk (by omega) (by omega) hz)
  have e4 : cb size l (q + size) - cb size l (p + size) = cb size l q - cb size l p := by rw [cb_shift s1, cb_shift s1]; omega
  rw [e4] at H4
  clear e4
  have H6 := hid (fun W (h : Below w.heap.size w W) => count_ok size p (p + 1) a cap l W (hr.below h (Nat.le_refl _)) hk p1 (by omega) ho)
  rw [cb_one s1 s4 p1] at H6
  clear hr hk s4
  generalize cb size l q - cb size l p = X at *
  generalize cb size l r - cb size l q = Y at *
  generalize mem l (p % size) = M at *
  obtain ⟨x3, x4⟩ := x1
  obtain ⟨x5, x6⟩ := x2
  have hone : (M == (SpanM.one M == 1)) = true := by cases M <;> rfl
  generalize SpanM.one M = O at *
  go_enter Try.func8, Try.ntmps8
  go_wp2_with fail
  refine (H1.out _ (by go_grown)).mono ?_
  rintro e w1 ⟨rfl, b1⟩
  have HB1 : Hid (Below (w.heap.size + 1) (w.alloc (.cells #[.int .i64 size, .slice a l.length cap] 24)) w1) := box1 b1
  clear b1
  have c1 : w1.cell? ⟨w.heap.size, 0, none⟩ = some (.int .i64 size) := boxc HB1.out 0
  have c2 : w1.cell? ⟨w.heap.size, 1, none⟩ = some (.slice a l.length cap) := boxc HB1.out 1
  go_wp2_with fail
  refine (H2.out _ (of_alloc HB1.out)).mono ?_
  rintro e w2 ⟨rfl, b2⟩
  have HB2 : Hid (Below (w.heap.size + 1) (w.alloc (.cells #[.int .i64 size, .slice a l.length cap] 24)) w2) := box2 HB1.out b2
  clear b2 c1 c2
  have c1 : w2.cell? ⟨w.heap.size, 0, none⟩ = some (.int .i64 size) := boxc HB2.out 0
  have c2 : w2.cell? ⟨w.heap.size, 1, none⟩ = some (.slice a l.length cap) := boxc HB2.out 1
  go_wp2_with fail
  refine (lives _).mono ?_
  rintro e w3 ⟨rfl, b3⟩
  have HB3 : Hid (Below (w.heap.size + 1) (w.alloc (.cells #[.int .i64 size, .slice a l.length cap] 24)) w3) := box2 HB2.out b3
  clear b3 c1 c2
  have c1 : w3.cell? ⟨w.heap.size, 0, none⟩ = some (.int .i64 size) := boxc HB3.out 0
  have c2 : w3.cell? ⟨w.heap.size, 1, none⟩ = some (.slice a l.length cap) := boxc HB3.out 1
  go_wp2_with fail
  refine (H3.out _ (of_alloc HB3.out)).mono ?_
  rintro e w4 ⟨rfl, b4⟩
  have HB4 : Hid (Below (w.heap.size + 1) (w.alloc (.cells #[.int .i64 size, .slice a l.length cap] 24)) w4) := box2 HB3.out b4
  clear b4 c1 c2
  have c1 : w4.cell? ⟨w.heap.size, 0, none⟩ = some (.int .i64 size) := boxc HB4.out 0
  have c2 : w4.cell? ⟨w.heap.size, 1, none⟩ = some (.slice a l.length cap) := boxc HB4.out 1
  go_wp2_with fail
  refine (H4.out _ (of_alloc HB4.out)).mono ?_
  rintro e w5 ⟨rfl, b5⟩
  have HB5 : Hid (Below (w.heap.size + 1) (w.alloc (.cells #[.int .i64 size, .slice a l.length cap] 24)) w5) := box2 HB4.out b5
  clear b5 c1 c2
  have c1 : w5.cell? ⟨w.heap.size, 0, none⟩ = some (.int .i64 size) := boxc HB5.out 0
  have c2 : w5.cell? ⟨w.heap.size, 1, none⟩ = some (.slice a l.length cap) := boxc HB5.out 1
  go_wp2_with fail
  refine (H5.out _ (of_alloc HB5.out)).mono ?_
  rintro e w6 ⟨rfl, b6⟩
  have HB6 : Hid (Below (w.heap.size + 1) (w.alloc (.cells #[.int .i64 size, .slice a l.length cap] 24)) w6) := box2 HB5.out b6
  clear b6 c1 c2
  have c1 : w6.cell? ⟨w.heap.size, 0, none⟩ = some (.int .i64 size) := boxc HB6.out 0
  have c2 : w6.cell? ⟨w.heap.size, 1, none⟩ = some (.slice a l.length cap) := boxc HB6.out 1
  go_wp2_with fail
  refine (H6.out _ (of_alloc HB6.out)).mono ?_
  rintro e w7 ⟨rfl, b7⟩
  have HB7 : Hid (Below (w.heap.size + 1) (w.alloc (.cells #[.int .i64 size, .slice a l.length cap] 24)) w7) := box2 HB6.out b7
  clear b7 c1 c2
  have c1 : w7.cell? ⟨w.heap.size, 0, none⟩ = some (.int .i64 size) := boxc HB7.out 0
  have c2 : w7.cell? ⟨w.heap.size, 1, none⟩ = some (.slice a l.length cap) := boxc HB7.out 1
  go_wp2_with fail
  go_ret
  exact ⟨by first | rfl | (simp only [hone]; rfl) | simp [hone] | simp, of_alloc HB7.out⟩
set_option maxHeartbeats 1000000 in
theorem countLaw_NY (size p q r : Int) (a : Option Addr) (cap : Nat) (l : List Sp) (w : World) (hr : Sps w a l) (hk : chk size l = 0) (p1 : 0 ≤ p) (p2 : p ≤ q) (p3 : q ≤ r) (p4 : r ≤ 1099511627776) (hz : 1099511627776 < q + size) (ho : p + 1 ≤ 1099511627776) :
    Calls Try.prog 8 #[.agg #[.int .i64 size, .slice a l.length cap], .int .i64 p, .int .i64 q, .int .i64 r] w fun e w' => e = .returned (.bool true) ∧ Below w.heap.size w w' := by
  obtain ⟨s1, s2, s3, s4⟩ := chk_zero hk
  have H1 := hid (fun W (h : Below w.heap.size w W) => count_ok size p q a cap l W (hr.below h (Nat.le_refl _)) hk p1 p2 (by omega))
  have H2 := hid (fun W (h : Below w.heap.size w W) => count_ok size q r a cap l W (hr.below h (Nat.le_refl _)) hk (by omega) p3 p4)
  have H3 := hid (fun W (h : Below w.heap.size w W) => count_ok size p r a cap l W (hr.below h (Nat.le_refl _)) hk p1 (by omega) p4)
  have H5 := hid (fun W (h : Below w.heap.size w W) => has_ok size p a cap l W (hr.below h (Nat.le_refl _)) hk p1 (by omega))
  have x1 := cb_mono s1 s4 p1 p2
  have x2 := cb_mono s1 s4 (by omega : 0 ≤ q) p3
  have e3 : cb size l r - cb size l p = (cb size l q - cb size l p) + (cb size l r - cb size l q) := by omega
  rw [e3] at H3
  clear e3
  have H4 := hid (fun W (h : Below w.heap.size w W) => count_arg size (p + size) (q + size) a cap l W (hr.below h (Nat.le_refl _)) hk (by omega))
  have H6 := hid (fun W (h : Below w.heap.size w W) => count_ok size p (p + 1) a cap l W (hr.below h (Nat.le_refl _)) hk p1 (by omega) ho)
  rw [cb_one s1 s4 p1] at H6
  clear hr hk s4
  generalize cb size l q - cb size l p = X at *
  generalize cb size l r - cb size l q = Y at *
  generalize mem l (p % size) = M at *
  obtain ⟨x3, x4⟩ := x1
  obtain ⟨x5, x6⟩ := x2
  have hone : (M == (SpanM.one M == 1)) = true := by cases M <;> rfl
  generalize SpanM.one M = O at *
  go_enter Try.func8, Try.ntmps8
  go_wp2_with fail
  refine (H1.out _ (by go_grown)).mono ?_
  rintro e w1 ⟨rfl, b1⟩
  have HB1 : Hid (Below (w.heap.size + 1) (w.alloc (.cells #[.int .i64 size, .slice a l.length cap] 24)) w1) := box1 b1
  clear b1
  have c1 : w1.cell? ⟨w.heap.size, 0, none⟩ = some (.int .i64 size) := boxc HB1.out 0
  have c2 : w1.cell? ⟨w.heap.size, 1, none⟩ = some (.slice a l.length cap) := boxc HB1.out 1
  go_wp2_with fail
  refine (H2.out _ (of_alloc HB1.out)).mono ?_
  rintro e w2 ⟨rfl, b2⟩
  have HB2 : Hid (Below (w.heap.size + 1) (w.alloc (.cells #[.int .i64 size, .slice a l.length cap] 24)) w2) := box2 HB1.out b2
  clear b2 c1 c2
  have c1 : w2.cell? ⟨w.heap.size, 0, none⟩ = some (.int .i64 size) := boxc HB2.out 0
  have c2 : w2.cell? ⟨w.heap.size, 1, none⟩ = some (.slice a l.length cap) := boxc HB2.out 1
  go_wp2_with fail
  refine (lives _).mono ?_
  rintro e w3 ⟨rfl, b3⟩
  have HB3 : Hid (Below (w.heap.size + 1) (w.alloc (.cells #[.int .i64 size, .slice a l.length cap] 24)) w3) := box2 HB2.out b3
  clear b3 c1 c2
  have c1 : w3.cell? ⟨w.heap.size, 0, none⟩ = some (.int .i64 size) := boxc HB3.out 0
  have c2 : w3.cell? ⟨w.heap.size, 1, none⟩ = some (.slice a l.length cap) := boxc HB3.out 1
  go_wp2_with fail
  refine (H3.out _ (of_alloc HB3.out)).mono ?_
  rintro e w4 ⟨rfl, b4⟩
  have HB4 : Hid (Below (w.heap.size + 1) (w.alloc (.cells #[.int .i64 size, .slice a l.length cap] 24)) w4) := box2 HB3.out b4
  clear b4 c1 c2
  have c1 : w4.cell? ⟨w.heap.size, 0, none⟩ = some (.int .i64 size) := boxc HB4.out 0
  have c2 : w4.cell? ⟨w.heap.size, 1, none⟩ = some (.slice a l.length cap) := boxc HB4.out 1
  go_wp2_with fail
  refine (H4.out _ (of_alloc HB4.out)).mono ?_
  rintro e w5 ⟨rfl, b5⟩
  have HB5 : Hid (Below (w.heap.size + 1) (w.alloc (.cells #[.int .i64 size, .slice a l.length cap] 24)) w5) := box2 HB4.out b5
  clear b5 c1 c2
  have c1 : w5.cell? ⟨w.heap.size, 0, none⟩ = some (.int .i64 size) := boxc HB5.out 0
  have c2 : w5.cell? ⟨w.heap.size, 1, none⟩ = some (.slice a l.length cap) := boxc HB5.out 1
  go_wp2_with fail
  refine (H5.out _ (of_alloc HB5.out)).mono ?_
  rintro e w6 ⟨rfl, b6⟩
  have HB6 : Hid (Below (w.heap.size + 1) (w.alloc (.cells #[.int .i64 size, .slice a l.length cap] 24)) w6) := box2 HB5.out b6
  clear b6 c1 c2
  have c1 : w6.cell? ⟨w.heap.size, 0, none⟩ = some (.int .i64 size) := boxc HB6.out 0
  have c2 : w6.cell? ⟨w.heap.size, 1, none⟩ = some (.slice a l.length cap) := boxc HB6.out 1
  go_wp2_with fail
  refine (H6.out _ (of_alloc HB6.out)).mono ?_
  rintro e w7 ⟨rfl, b7⟩
  have HB7 : Hid (Below (w.heap.size + 1) (w.alloc (.cells #[.int .i64 size, .slice a l.length cap] 24)) w7) := box2 HB6.out b7
  clear b7 c1 c2
  have c1 : w7.cell? ⟨w.heap.size, 0, none⟩ = some (.int .i64 size) := boxc HB7.out 0
  have c2 : w7.cell? ⟨w.heap.size, 1, none⟩ = some (.slice a l.length cap) := boxc HB7.out 1
  go_wp2_with fail
  go_ret
  exact ⟨by first | rfl | (simp only [hone]; rfl) | simp [hone] | simp, of_alloc HB7.out⟩
set_option maxHeartbeats 1000000 in
theorem countLaw_NN (size p q r : Int) (a : Option Addr) (cap : Nat) (l : List Sp) (w : World) (hr : Sps w a l) (hk : chk size l = 0) (p1 : 0 ≤ p) (p2 : p ≤ q) (p3 : q ≤ r) (p4 : r ≤ 1099511627776) (hz : 1099511627776 < q + size) (ho : 1099511627776 < p + 1) :
    Calls Try.prog 8 #[.agg #[.int .i64 size, .slice a l.length cap], .int .i64 p, .int .i64 q, .int .i64 r] w fun e w' => e = .returned (.bool true) ∧ Below w.heap.size w w' := by
  obtain ⟨s1, s2, s3, s4⟩ := chk_zero hk
  have H1 := hid (fun W (h : Below w.heap.size w W) => count_ok size p q a cap l W (hr.below h (Nat.le_refl _)) hk p1 p2 (by omega))
  have H2 := hid (fun W (h : Below w.heap.size w W) => count_ok size q r a cap l W (hr.below h (Nat.le_refl _)) hk (by omega) p3 p4)
  have H3 := hid (fun W (h : Below w.heap.size w W) => count_ok size p r a cap l W (hr.below h (Nat.le_refl _)) hk p1 (by omega) p4)
  have H5 := hid (fun W (h : Below w.heap.size w W) => has_ok size p a cap l W (hr.below h (Nat.le_refl _)) hk p1 (by omega))
  have x1 := cb_mono s1 s4 p1 p2
  have x2 := cb_mono s1 s4 (by omega : 0 ≤ q) p3
  have e3 : cb size l r - cb size l p = (cb size l q - cb size l p) + (cb size l r - cb size l q) := by omega
  rw [e3] at H3
  clear e3
  have H4 := hid (fun W (h : Below w.heap.size w W) => count_arg size (p + size) (q + size) a cap l W (hr.below h (Nat.le_refl _)) hk (by omega))
  have H6 := hid (fun W (h : Below w.heap.size w W) => count_arg size p (p + 1) a cap l W (hr.below h (Nat.le_refl _)) hk (by omega))
  clear hr hk s4
  generalize cb size l q - cb size l p = X at *
  generalize cb size l r - cb size l q = Y at *
  generalize mem l (p % size) = M at *
  obtain ⟨x3, x4⟩ := x1
  obtain ⟨x5, x6⟩ := x2
  go_enter Try.func8, Try.ntmps8
  go_wp2_with fail
  refine (H1.out _ (by go_grown)).mono ?_
  rintro e w1 ⟨rfl, b1⟩
  have HB1 : Hid (Below (w.heap.size + 1) (w.alloc (.cells #[.int .i64 size, .slice a l.length cap] 24)) w1) := box1 b1
  clear b1
  have c1 : w1.cell? ⟨w.heap.size, 0, none⟩ = some (.int .i64 size) := boxc HB1.out 0
  have c2 : w1.cell? ⟨w.heap.size, 1, none⟩ = some (.slice a l.length cap) := boxc HB1.out 1
  go_wp2_with fail
  refine (H2.out _ (of_alloc HB1.out)).mono ?_
  rintro e w2 ⟨rfl, b2⟩
  have HB2 : Hid (Below (w.heap.size + 1) (w.alloc (.cells #[.int .i64 size, .slice a l.length cap] 24)) w2) := box2 HB1.out b2
  clear b2 c1 c2
  have c1 : w2.cell? ⟨w.heap.size, 0, none⟩ = some (.int .i64 size) := boxc HB2.out 0
  have c2 : w2.cell? ⟨w.heap.size, 1, none⟩ = some (.slice a l.length cap) := boxc HB2.out 1
  go_wp2_with fail
  refine (lives _).mono ?_
  rintro e w3 ⟨rfl, b3⟩
  have HB3 : Hid (Below (w.heap.size + 1) (w.alloc (.cells #[.int .i64 size, .slice a l.length cap] 24)) w3) := box2 HB2.out b3
  clear b3 c1 c2
  have c1 : w3.cell? ⟨w.heap.size, 0, none⟩ = some (.int .i64 size) := boxc HB3.out 0
  have c2 : w3.cell? ⟨w.heap.size, 1, none⟩ = some (.slice a l.length cap) := boxc HB3.out 1
  go_wp2_with fail
  refine (H3.out _ (of_alloc HB3.out)).mono ?_
  rintro e w4 ⟨rfl, b4⟩
  have HB4 : Hid (Below (w.heap.size + 1) (w.alloc (.cells #[.int .i64 size, .slice a l.length cap] 24)) w4) := box2 HB3.out b4
  clear b4 c1 c2
  have c1 : w4.cell? ⟨w.heap.size, 0, none⟩ = some (.int .i64 size) := boxc HB4.out 0
  have c2 : w4.cell? ⟨w.heap.size, 1, none⟩ = some (.slice a l.length cap) := boxc HB4.out 1
  go_wp2_with fail
  refine (H4.out _ (of_alloc HB4.out)).mono ?_
  rintro e w5 ⟨rfl, b5⟩
  have HB5 : Hid (Below (w.heap.size + 1) (w.alloc (.cells #[.int .i64 size, .slice a l.length cap] 24)) w5) := box2 HB4.out b5
  clear b5 c1 c2
  have c1 : w5.cell? ⟨w.heap.size, 0, none⟩ = some (.int .i64 size) := boxc HB5.out 0
  have c2 : w5.cell? ⟨w.heap.size, 1, none⟩ = some (.slice a l.length cap) := boxc HB5.out 1
  go_wp2_with fail
  refine (H5.out _ (of_alloc HB5.out)).mono ?_
  rintro e w6 ⟨rfl, b6⟩
  have HB6 : Hid (Below (w.heap.size + 1) (w.alloc (.cells #[.int .i64 size, .slice a l.length cap] 24)) w6) := box2 HB5.out b6
  clear b6 c1 c2
  have c1 : w6.cell? ⟨w.heap.size, 0, none⟩ = some (.int .i64 size) := boxc HB6.out 0
  have c2 : w6.cell? ⟨w.heap.size, 1, none⟩ = some (.slice a l.length cap) := boxc HB6.out 1
  go_wp2_with fail
  refine (H6.out _ (of_alloc HB6.out)).mono ?_
  rintro e w7 ⟨rfl, b7⟩
  have HB7 : Hid (Below (w.heap.size + 1) (w.alloc (.cells #[.int .i64 size, .slice a l.length cap] 24)) w7) := box2 HB6.out b7
  clear b7 c1 c2
  have c1 : w7.cell? ⟨w.heap.size, 0, none⟩ = some (.int .i64 size) := boxc HB7.out 0
  have c2 : w7.cell? ⟨w.heap.size, 1, none⟩ = some (.slice a l.length cap) := boxc HB7.out 1
  go_wp2_with fail
  go_ret
  exact ⟨by first | rfl | simp, of_alloc HB7.out⟩
theorem spanCount_walk (size : Int) (a : Option Addr) (len cap : Nat) (l : List Sp) (p q r : Int) (w : World) (hs : wf64 size) (h : IsSps w a len cap l) (h1 : wf64 p) (h2 : wf64 q) (h3 : wf64 r) :
    Calls Try.prog 8 #[.agg #[.int .i64 size, .slice a len cap], .int .i64 p, .int .i64 q, .int .i64 r] w fun e w' => e = .returned (.bool true) ∧ Below w.heap.size w w' := by
  obtain ⟨rfl, _, _, hr, _, _⟩ := h
  by_cases he : cntE size l p q = 0
  · by_cases hf : cntE size l q r = 0
    · obtain ⟨hk, a1, a2, a3⟩ := cntE_zero he
      obtain ⟨_, b1, b2, b3⟩ := cntE_zero hf
      by_cases hz : q + size ≤ 1099511627776
      · by_cases ho : p + 1 ≤ 1099511627776
        · exact countLaw_YY size p q r a cap l w hr hk a1 a2 b2 b3 hz ho
        · exact absurd (chk_zero hk).1 (by omega)
      · by_cases ho : p + 1 ≤ 1099511627776
        · exact countLaw_NY size p q r a cap l w hr hk a1 a2 b2 b3 (by omega) ho
        · exact countLaw_NN size p q r a cap l w hr hk a1 a2 b2 b3 (by omega) (by omega)
    · exact countLaw_f size p q r a cap l w hr he hf
  · exact countLaw_e size p q r a cap l w hr he
end SpanC
end Go.Proofs.Ytlhkjdghefbnfaa
