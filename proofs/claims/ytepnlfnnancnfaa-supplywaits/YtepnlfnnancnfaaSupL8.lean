/- The walk of SupplyWaits. -/
import Derived.Test.YtepnlfnnancnfaaSupY
import Derived.Test.YtepnlfnnancnfaaSpanO
set_option linter.unusedVariables false
namespace Go.Proofs.Ytepnlfnnancnfaa
open Go.RowKit Go.Shelf
open SpanM SupM
namespace SpanC
theorem betwB_yes (x lo hi : Int) (w : World) (h1 : lo ≤ x) (h2 : x ≤ hi) :
    Calls Try.prog 15 #[.int .i64 x, .int .i64 lo, .int .i64 hi] w fun e w' => e = .returned (.bool true) ∧ Below w.heap.size w w' :=
  (between_yes x lo hi w h1 h2).mono fun _ _ ⟨h1, h2⟩ => ⟨h1, by rw [h2]; exact Below.refl _ _⟩
theorem betwB_no (x lo hi : Int) (w : World) (h : ¬ (lo ≤ x ∧ x ≤ hi)) :
    Calls Try.prog 15 #[.int .i64 x, .int .i64 lo, .int .i64 hi] w fun e w' => e = .returned (.bool false) ∧ Below w.heap.size w w' :=
  (between_no x lo hi w h).mono fun _ _ ⟨h1, h2⟩ => ⟨h1, by rw [h2]; exact Below.refl _ _⟩
/-- told, of what may not be asked -/
theorem told_may (g bn bs : Nat) (cb : Array Value) (W : World) :
    Calls Try.prog 19 #[.int .i64 0, .int .i64 1, .bool false, .func (.func g) #[] cb, .pointer (some ⟨bn, 0, none⟩), .pointer (some ⟨bs, 0, none⟩)] W fun e w' => e = .returned (.bool true) ∧ Below W.heap.size W w' := by
  go_enter Try.func19, Try.ntmps19
  go_wp2_with fail
  go_ret
  exact ⟨by first | rfl | simp, by go_grown⟩
theorem told_arg (n : Int) (g bn bs : Nat) (cb : Array Value) (W : World) (c2 : W.cell? ⟨bn, 0, none⟩ = some (.int .i64 n)) (hn : ¬ (0 ≤ n ∧ n ≤ 1000000)) :
    Calls Try.prog 19 #[.int .i64 0, .int .i64 1, .bool true, .func (.func g) #[] cb, .pointer (some ⟨bn, 0, none⟩), .pointer (some ⟨bs, 0, none⟩)] W fun e w' => e = .returned (.bool true) ∧ Below W.heap.size W w' := by
  have HN := hid hn
  clear hn
  go_enter Try.func19, Try.ntmps19
  go_wp2_with (first | (go_at_call 15; refine (betwB_no _ _ _ _ HN.out).mono ?_; rintro e w' ⟨rfl, hb⟩))
  go_ret
  exact ⟨by first | rfl | simp, hb⟩
theorem told_zero (g bn bs : Nat) (cb : Array Value) (W : World) (c2 : W.cell? ⟨bn, 0, none⟩ = some (.int .i64 0)) :
    Calls Try.prog 19 #[.int .i64 0, .int .i64 0, .bool true, .func (.func g) #[] cb, .pointer (some ⟨bn, 0, none⟩), .pointer (some ⟨bs, 0, none⟩)] W fun e w' => e = .returned (.bool true) ∧ Below W.heap.size W w' := by
  go_enter Try.func19, Try.ntmps19
  go_wp2_with fail
  refine (betwB_yes _ _ _ _ (by omega) (by omega)).mono ?_
  rintro e w1 ⟨rfl, b1⟩
  have x2 := (b1.cell (World.block_lt_of_cell? _ _ c2)).trans c2
  go_wp2_with fail
  go_ret
  exact ⟨by first | rfl | simp, b1⟩
theorem told_none (n : Int) (g bn bs cap : Nat) (a : Option Addr) (cb : Array Value) (W : World) (c2 : W.cell? ⟨bn, 0, none⟩ = some (.int .i64 n)) (n1 : 1 ≤ n) (n2 : n ≤ 1000000) (c1 : W.cell? ⟨bs, 1, none⟩ = some (.slice a 0 cap)) :
    Calls Try.prog 19 #[.int .i64 0, .int .i64 7, .bool true, .func (.func g) #[] cb, .pointer (some ⟨bn, 0, none⟩), .pointer (some ⟨bs, 0, none⟩)] W fun e w' => e = .returned (.bool true) ∧ Below W.heap.size W w' := by
  have q0 : (n == 0) = false := by rw [beq_eq_false_iff_ne]; omega
  go_enter Try.func19, Try.ntmps19
  go_wp2_with fail
  refine (betwB_yes _ _ _ _ (by omega) n2).mono ?_
  rintro e w1 ⟨rfl, b1⟩
  have x2 := (b1.cell (World.block_lt_of_cell? _ _ c2)).trans c2
  have x1 := (b1.cell (World.block_lt_of_cell? _ _ c1)).trans c1
  go_wp2_with fail
  go_ret
  exact ⟨by first | rfl | simp, b1⟩
theorem told_ok (n X : Int) (g bn bs cap len : Nat) (a : Option Addr) (cb : Array Value) (W : World) (c2 : W.cell? ⟨bn, 0, none⟩ = some (.int .i64 n)) (n1 : 1 ≤ n) (n2 : n ≤ 1000000) (c1 : W.cell? ⟨bs, 1, none⟩ = some (.slice a len cap)) (hl : 0 < len)
    (eg : ∀ args w, (callFunc g args).run Try.prog w = .ok (.enter g args) w) (hW : Hid (∀ V, Below W.heap.size W V → Calls Try.prog g cb V fun e w' => e = .returned (.int .i64 X) ∧ Below V.heap.size V w')) :
    Calls Try.prog 19 #[.int .i64 X, .int .i64 0, .bool true, .func (.func g) #[] cb, .pointer (some ⟨bn, 0, none⟩), .pointer (some ⟨bs, 0, none⟩)] W fun e w' => e = .returned (.bool true) ∧ Below W.heap.size W w' := by
  have q0 : (n == 0) = false := by rw [beq_eq_false_iff_ne]; omega
  have q1 : ((len : Int) == 0) = false := by rw [beq_eq_false_iff_ne]; omega
  have q2 : (X == X) = true := by simp
  go_enter Try.func19, Try.ntmps19
  go_wp2_with fail
  refine (betwB_yes _ _ _ _ (by omega) n2).mono ?_
  rintro e w1 ⟨rfl, b1⟩
  have x2 := (b1.cell (World.block_lt_of_cell? _ _ c2)).trans c2
  have x1 := (b1.cell (World.block_lt_of_cell? _ _ c1)).trans c1
  have B1 := hid b1
  clear b1
  go_wp2_with fail
  refine (hW.out _ B1.out).mono ?_
  rintro e w2 ⟨rfl, b2⟩
  go_wp2_with fail
  go_ret
  exact ⟨by first | rfl | simp, bel_of B1.out b2⟩
/-- the memory of a call of SupplyWaits: what came in -/
structure WB (w W : World) (size t n : Int) (a : Option Addr) (cap : Nat) (l : List Sp) : Prop where
  be : Below w.heap.size w W
  b0 : W.cell? ⟨w.heap.size, 0, none⟩ = some (.int .i64 size)
  b1 : W.cell? ⟨w.heap.size, 1, none⟩ = some (.slice a l.length cap)
  bt : W.cell? ⟨w.heap.size + 1, 0, none⟩ = some (.int .i64 t)
  bn : W.cell? ⟨w.heap.size + 2, 0, none⟩ = some (.int .i64 n)
theorem WB.start (w : World) (size t n : Int) (a : Option Addr) (cap : Nat) (l : List Sp) : WB w (((w.alloc (.cells #[.int .i64 size, .slice a l.length cap] 24)).alloc (.cells #[.int .i64 t] 3)).alloc (.cells #[.int .i64 n] 3)) size t n a cap l where
  be := by go_grown
  b0 := (World.cell?_alloc_lt _ _ _ (by simp; omega)).trans ((World.cell?_alloc_lt _ _ _ (by simp)).trans (World.cell?_alloc_at _ _ _ _ rfl))
  b1 := (World.cell?_alloc_lt _ _ _ (by simp; omega)).trans ((World.cell?_alloc_lt _ _ _ (by simp)).trans (World.cell?_alloc_at _ _ _ _ rfl))
  bt := (World.cell?_alloc_lt _ _ _ (by simp)).trans (World.cell?_alloc_at _ _ _ _ (by simp))
  bn := World.cell?_alloc_at _ _ _ _ (by simp)
theorem WB.step {w W W' : World} {size t n : Int} {a : Option Addr} {cap : Nat} {l : List Sp} (h : WB w W size t n a cap l) (hb : Below W.heap.size W W') : WB w W' size t n a cap l where
  be := bel_of h.be hb
  b0 := (hb.cell (World.block_lt_of_cell? _ _ h.b0)).trans h.b0
  b1 := (hb.cell (World.block_lt_of_cell? _ _ h.b1)).trans h.b1
  bt := (hb.cell (World.block_lt_of_cell? _ _ h.bt)).trans h.bt
  bn := (hb.cell (World.block_lt_of_cell? _ _ h.bn)).trans h.bn
theorem want2 (w W : World) (size t n : Int) (a : Option Addr) (cap : Nat) (l : List Sp) (hb : WB w W size t n a cap l) (hr : Sps w a l) (hk : chk size l = 0) (hne : l ≠ []) (n1 : 1 ≤ n) (n2 : n ≤ 1000000) :
    Calls Try.prog 20 #[.pointer (some ⟨w.heap.size, 0, none⟩), .pointer (some ⟨w.heap.size + 2, 0, none⟩)] W fun e w' => e = .returned (.int .i64 (wt size l n)) ∧ Below W.heap.size W w' := by
  have H := hid (waitOf_any size n a cap l W (hr.below hb.be (Nat.le_refl _)) hk hne n1 n2)
  obtain ⟨_, x0, x1, x2, x3⟩ := hb
  clear hr hk hne
  generalize wt size l n = V at *
  go_enter Try.func20, Try.ntmps20
  go_wp2_with fail
  refine H.out.mono ?_
  rintro e w2 ⟨rfl, b2⟩
  go_wp2_with fail
  go_ret
  exact ⟨rfl, b2⟩
theorem want3 (w W : World) (size t n : Int) (a : Option Addr) (cap : Nat) (l : List Sp) (hb : WB w W size t n a cap l) (hr : Sps w a l) (hk : chk size l = 0) (hne : l ≠ []) (t1 : 0 ≤ t) (t2 : t ≤ 1000000) (n1 : 1 ≤ n) (n2 : n ≤ 1000000) :
    Calls Try.prog 22 #[.pointer (some ⟨w.heap.size, 0, none⟩), .pointer (some ⟨w.heap.size + 1, 0, none⟩), .pointer (some ⟨w.heap.size + 2, 0, none⟩)] W fun e w' => e = .returned (.int .i64 (fr size l t n)) ∧ Below W.heap.size W w' := by
  have H := hid (need_any size t n a cap l W (hr.below hb.be (Nat.le_refl _)) hk hne t1 t2 n1 n2)
  obtain ⟨_, x0, x1, x2, x3⟩ := hb
  clear hr hk hne
  generalize fr size l t n = V at *
  go_enter Try.func22, Try.ntmps22
  go_wp2_with fail
  refine H.out.mono ?_
  rintro e w2 ⟨rfl, b2⟩
  go_wp2_with fail
  go_ret
  exact ⟨rfl, b2⟩
set_option maxHeartbeats 1000000 in
theorem waits_err (size t n : Int) (a : Option Addr) (cap : Nat) (l : List Sp) (w : World) (hr : Sps w a l) (hk : chk size l ≠ 0) :
    Calls Try.prog 4 #[.agg #[.int .i64 size, .slice a l.length cap], .int .i64 t, .int .i64 n] w fun e w' => e = .returned (.bool true) ∧ Below w.heap.size w w' := by
  have hs : sE size l n 1000000 = chk size l := by unfold sE; rw [if_neg hk]
  have H1 := hid (fun V (h : WB w V size t n a cap l) => wait_err size n a cap l V (hr.below h.be (Nat.le_refl _)) (by rw [hs]; exact hk))
  have H2 := hid (fun V (h : WB w V size t n a cap l) => from_err size t n a cap l V (hr.below h.be (Nat.le_refl _)) (by rw [hs]; exact hk))
  have H3 := hid (fun V (h : WB w V size t n a cap l) => right_any size a cap l V (hr.below h.be (Nat.le_refl _)))
  rw [hs] at H1 H2
  have hne : (chk size l != 0) = true := by simp [hk]
  have WB0 := hid (WB.start w size t n a cap l)
  clear hs hk hr
  generalize chk size l = E at *
  have hEE : (E == E) = true := by simp
  go_enter Try.func4, Try.ntmps4
  obtain ⟨_, x0, x1, x2, x3⟩ := WB0.out
  go_wp2_with fail
  refine (H1.out _ WB0.out).mono ?_
  rintro e w1 ⟨rfl, b⟩
  have WB1 := hid (WB0.out.step b)
  clear b x0 x1 x2 x3
  obtain ⟨_, x0, x1, x2, x3⟩ := WB1.out
  go_wp2_with fail
  refine (H2.out _ WB1.out).mono ?_
  rintro e w2 ⟨rfl, b⟩
  have WB2 := hid (WB1.out.step b)
  clear b x0 x1 x2 x3
  obtain ⟨_, x0, x1, x2, x3⟩ := WB2.out
  go_wp2_with fail
  refine (H3.out _ WB2.out).mono ?_
  rintro e w3 ⟨rfl, b⟩
  have WB3 := hid (WB2.out.step b)
  clear b x0 x1 x2 x3
  obtain ⟨_, x0, x1, x2, x3⟩ := WB3.out
  go_wp2_with fail
  go_ret
  exact ⟨by first | rfl | simp, WB3.out.be⟩
set_option maxHeartbeats 1000000 in
theorem waits_ok (size t n v1 e1 v2 e2 : Int) (may : Bool) (a : Option Addr) (cap : Nat) (l : List Sp) (w : World) (hr : Sps w a l) (hk : chk size l = 0)
    (H1 : Hid (∀ V, WB w V size t n a cap l → Calls Try.prog 17 #[.agg #[.int .i64 size, .slice a l.length cap], .int .i64 n] V fun e w' => e = .returned (.tuple #[.int .i64 v1, .int .i64 e1]) ∧ Below V.heap.size V w'))
    (H2 : Hid (∀ V, WB w V size t n a cap l → Calls Try.prog 18 #[.agg #[.int .i64 size, .slice a l.length cap], .int .i64 t, .int .i64 n] V fun e w' => e = .returned (.tuple #[.int .i64 v2, .int .i64 e2]) ∧ Below V.heap.size V w'))
    (T1 : Hid (∀ V, WB w V size t n a cap l → Calls Try.prog 19 #[.int .i64 v1, .int .i64 e1, .bool true, .func (.func 20) #[] #[.pointer (some ⟨w.heap.size, 0, none⟩), .pointer (some ⟨w.heap.size + 2, 0, none⟩)], .pointer (some ⟨w.heap.size + 2, 0, none⟩), .pointer (some ⟨w.heap.size, 0, none⟩)] V fun e w' => e = .returned (.bool true) ∧ Below V.heap.size V w'))
    (T2 : Hid (∀ V, WB w V size t n a cap l → Calls Try.prog 19 #[.int .i64 v2, .int .i64 e2, .bool may, .func (.func 22) #[] #[.pointer (some ⟨w.heap.size, 0, none⟩), .pointer (some ⟨w.heap.size + 1, 0, none⟩), .pointer (some ⟨w.heap.size + 2, 0, none⟩)], .pointer (some ⟨w.heap.size + 2, 0, none⟩), .pointer (some ⟨w.heap.size, 0, none⟩)] V fun e w' => e = .returned (.bool true) ∧ Below V.heap.size V w'))
    (HM : Hid (∀ V : World, Calls Try.prog 15 #[.int .i64 t, .int .i64 0, .int .i64 1000000] V fun e w' => e = .returned (.bool may) ∧ Below V.heap.size V w')) :
    Calls Try.prog 4 #[.agg #[.int .i64 size, .slice a l.length cap], .int .i64 t, .int .i64 n] w fun e w' => e = .returned (.bool true) ∧ Below w.heap.size w w' := by
  have H3 := hid (fun V (h : WB w V size t n a cap l) => right_any size a cap l V (hr.below h.be (Nat.le_refl _)))
  rw [hk] at H3
  have WB0 := hid (WB.start w size t n a cap l)
  clear hk hr
  go_enter Try.func4, Try.ntmps4
  obtain ⟨_, x0, x1, x2, x3⟩ := WB0.out
  go_wp2_with fail
  refine (H1.out _ WB0.out).mono ?_
  rintro e w1 ⟨rfl, b⟩
  have WB1 := hid (WB0.out.step b)
  clear b x0 x1 x2 x3
  obtain ⟨_, x0, x1, x2, x3⟩ := WB1.out
  go_wp2_with fail
  refine (H2.out _ WB1.out).mono ?_
  rintro e w2 ⟨rfl, b⟩
  have WB2 := hid (WB1.out.step b)
  clear b x0 x1 x2 x3
  obtain ⟨_, x0, x1, x2, x3⟩ := WB2.out
  go_wp2_with fail
  refine (H3.out _ WB2.out).mono ?_
  rintro e w3 ⟨rfl, b⟩
  have WB3 := hid (WB2.out.step b)
  clear b x0 x1 x2 x3
  obtain ⟨_, x0, x1, x2, x3⟩ := WB3.out
  go_wp2_with fail
  refine (T1.out _ WB3.out).mono ?_
  rintro e w4 ⟨rfl, b⟩
  have WB4 := hid (WB3.out.step b)
  clear b x0 x1 x2 x3
  obtain ⟨_, x0, x1, x2, x3⟩ := WB4.out
  go_wp2_with fail
  refine ((fun (_ : WB w _ size t n a cap l) => HM.out _) WB4.out).mono ?_
  rintro e w5 ⟨rfl, b⟩
  have WB5 := hid (WB4.out.step b)
  clear b x0 x1 x2 x3
  obtain ⟨_, x0, x1, x2, x3⟩ := WB5.out
  go_wp2_with fail
  refine (T2.out _ WB5.out).mono ?_
  rintro e w6 ⟨rfl, b⟩
  have WB6 := hid (WB5.out.step b)
  clear b x0 x1 x2 x3
  obtain ⟨_, x0, x1, x2, x3⟩ := WB6.out
  go_wp2_with fail
  go_ret
  exact ⟨by first | rfl | simp, WB6.out.be⟩
theorem supplyWaits_walk (size : Int) (a : Option Addr) (len cap : Nat) (l : List Sp) (t n : Int) (w : World) (hs : wf64 size) (h : IsSps w a len cap l) (ht : wf64 t) (hn : wf64 n) :
    Calls Try.prog 4 #[.agg #[.int .i64 size, .slice a len cap], .int .i64 t, .int .i64 n] w fun e w' => e = .returned (.bool true) ∧ Below w.heap.size w w' := by
  obtain ⟨rfl, h1, h2, hr, _, _⟩ := h
  by_cases hk : chk size l = 0
  · have R := fun V (h : WB w V size t n a cap l) => hr.below h.be (Nat.le_refl _)
    by_cases hm : 0 ≤ t ∧ t ≤ 1000000
    · have HM : Hid (∀ V : World, Calls Try.prog 15 #[.int .i64 t, .int .i64 0, .int .i64 1000000] V fun e w' => e = .returned (.bool true) ∧ Below V.heap.size V w') := fun V => betwB_yes t 0 1000000 V hm.1 hm.2
      by_cases hq : 0 ≤ n ∧ n ≤ 1000000
      · have he : sE size l n 1000000 = 0 := sE_of hk hq.1 hq.2
        by_cases h0 : n = 0
        · subst h0
          exact waits_ok size t 0 0 0 0 0 true a cap l w hr hk (fun V h => wait_zero size a cap l V (R V h) he) (fun V h => from_zero size t a cap l V (R V h) he hm.1 hm.2) (fun V h => told_zero _ _ _ _ V h.bn) (fun V h => told_zero _ _ _ _ V h.bn) HM
        · by_cases hl : l = []
          · subst hl
            exact waits_ok size t n 0 7 0 7 true a cap [] w hr hk (fun V h => wait_none size n a cap V he h0) (fun V h => from_none size t n a cap V he hm.1 hm.2 h0) (fun V h => told_none n _ _ _ cap a _ V h.bn (by omega) hq.2 h.b1) (fun V h => told_none n _ _ _ cap a _ V h.bn (by omega) hq.2 h.b1) HM
          · have hpos : 0 < l.length := List.length_pos_iff.2 hl
            exact waits_ok size t n (wt size l n) 0 (fr size l t n) 0 true a cap l w hr hk (fun V h => wait_ok size n a cap l V (R V h) he hl h0) (fun V h => from_ok size t n a cap l V (R V h) he hm.1 hm.2 hl h0)
              (fun V h => told_ok n (wt size l n) _ _ _ cap l.length a _ V h.bn (by omega) hq.2 h.b1 hpos (enters_of Try.func20 (by kernel_rfl) rfl) (fun U hU => want2 w U size t n a cap l (h.step hU) hr hk hl (by omega) hq.2))
              (fun V h => told_ok n (fr size l t n) _ _ _ cap l.length a _ V h.bn (by omega) hq.2 h.b1 hpos (enters_of Try.func22 (by kernel_rfl) rfl) (fun U hU => want3 w U size t n a cap l (h.step hU) hr hk hl hm.1 hm.2 (by omega) hq.2)) HM
      · have he : sE size l n 1000000 = 1 := by unfold sE; rw [if_pos hk, if_neg hq]
        exact waits_ok size t n 0 1 0 1 true a cap l w hr hk (fun V h => by have := wait_err size n a cap l V (R V h) (by rw [he]; decide); rwa [he] at this) (fun V h => by have := from_err size t n a cap l V (R V h) (by rw [he]; decide); rwa [he] at this) (fun V h => told_arg n _ _ _ _ V h.bn hq) (fun V h => told_arg n _ _ _ _ V h.bn hq) HM
    · have HM : Hid (∀ V : World, Calls Try.prog 15 #[.int .i64 t, .int .i64 0, .int .i64 1000000] V fun e w' => e = .returned (.bool false) ∧ Below V.heap.size V w') := fun V => betwB_no t 0 1000000 V hm
      by_cases hq : 0 ≤ n ∧ n ≤ 1000000
      · have he : sE size l n 1000000 = 0 := sE_of hk hq.1 hq.2
        by_cases h0 : n = 0
        · subst h0
          exact waits_ok size t 0 0 0 0 1 false a cap l w hr hk (fun V h => wait_zero size a cap l V (R V h) he) (fun V h => from_arg size t 0 a cap l V (R V h) he hm) (fun V h => told_zero _ _ _ _ V h.bn) (fun V h => told_may _ _ _ _ V) HM
        · by_cases hl : l = []
          · subst hl
            exact waits_ok size t n 0 7 0 1 false a cap [] w hr hk (fun V h => wait_none size n a cap V he h0) (fun V h => from_arg size t n a cap [] V (R V h) he hm) (fun V h => told_none n _ _ _ cap a _ V h.bn (by omega) hq.2 h.b1) (fun V h => told_may _ _ _ _ V) HM
          · have hpos : 0 < l.length := List.length_pos_iff.2 hl
            exact waits_ok size t n (wt size l n) 0 0 1 false a cap l w hr hk (fun V h => wait_ok size n a cap l V (R V h) he hl h0) (fun V h => from_arg size t n a cap l V (R V h) he hm)
              (fun V h => told_ok n (wt size l n) _ _ _ cap l.length a _ V h.bn (by omega) hq.2 h.b1 hpos (enters_of Try.func20 (by kernel_rfl) rfl) (fun U hU => want2 w U size t n a cap l (h.step hU) hr hk hl (by omega) hq.2))
              (fun V h => told_may _ _ _ _ V) HM
      · have he : sE size l n 1000000 = 1 := by unfold sE; rw [if_pos hk, if_neg hq]
        exact waits_ok size t n 0 1 0 1 false a cap l w hr hk (fun V h => by have := wait_err size n a cap l V (R V h) (by rw [he]; decide); rwa [he] at this) (fun V h => by have := from_err size t n a cap l V (R V h) (by rw [he]; decide); rwa [he] at this) (fun V h => told_arg n _ _ _ _ V h.bn hq) (fun V h => told_may _ _ _ _ V) HM
  · exact waits_err size t n a cap l w hr hk
end SpanC
end Go.Proofs.Ytepnlfnnancnfaa
