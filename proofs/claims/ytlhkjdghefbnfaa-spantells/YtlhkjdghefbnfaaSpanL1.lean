/- The walk of SpanTells. -/
import Derived.Test.YtlhkjdghefbnfaaSpanR
import Derived.Deep.RegionWith
import Derived.Test.YtlhkjdghefbnfaaSpanO
set_option linter.unusedVariables false
namespace Go.Proofs.Ytlhkjdghefbnfaa
open Go.RowKit
open SpanM
namespace SpanC
theorem cb_next {size t n : Int} {l : List Sp} (h1 : 1 ≤ size) (h2 : good size (-1) l = true) (ht : 0 ≤ t) (h : NextP size l t n) : cb size l n = cb size l t := by
  obtain ⟨n1, n2, n3, n4⟩ := h
  have e1 := cb_num h1 h2 n.toNat
  have e2 := cb_num h1 h2 t.toNat
  rw [Int.toNat_of_nonneg (by omega)] at e1 e2
  rw [e1, e2]
  refine num_none _ _ _ (by omega) fun u a b => ?_
  exact n4 u (by omega) (by omega)
theorem tells_err (size t f u : Int) (a : Option Addr) (cap : Nat) (l : List Sp) (w : World) (hr : Sps w a l) (hk : chk size l ≠ 0) :
    Calls Try.prog 5 #[.agg #[.int .i64 size, .slice a l.length cap], .int .i64 t, .int .i64 f, .int .i64 u] w fun e w' => e = .returned (.bool true) ∧ Below w.heap.size w w' := by
  have h1 := fun W (h : Below w.heap.size w W) => has_err size t a cap l W (hr.below h (Nat.le_refl _)) hk
  have h2 := fun W (h : Below w.heap.size w W) => next_err size t a cap l W (hr.below h (Nat.le_refl _)) hk
  have h3 := fun W (h : Below w.heap.size w W) => count_err size f u a cap l W (hr.below h (Nat.le_refl _)) hk
  have h4 := fun W (h : Below w.heap.size w W) => right_any size a cap l W (hr.below h (Nat.le_refl _))
  have hne : (chk size l != 0) = true := by simp [hk]
  clear hr hk
  generalize chk size l = c at h1 h2 h3 h4 hne
  have H1 : Hid _ := h1
  have H2 : Hid _ := h2
  have H3 : Hid _ := h3
  have H4 : Hid _ := h4
  clear h1 h2 h3 h4
  go_enter Try.func5, Try.ntmps5
  go_wp2_with fail
  refine (H1.out _ (by go_grown)).mono ?_
  rintro e w1 ⟨rfl, b1⟩
  have HB1 : Hid (Below (w.heap.size + 1) (w.alloc (.cells #[.int .i64 size, .slice a l.length cap] 24)) w1) := box1 b1
  clear b1
  have c1 : w1.cell? ⟨w.heap.size, 0, none⟩ = some (.int .i64 size) := boxc HB1.out 0
  have c2 : w1.cell? ⟨w.heap.size, 1, none⟩ = some (.slice a l.length cap) := boxc HB1.out 1
  go_wp2_with fail
  refine (H2.out _ (of_alloc HB1.out)).mono ?_
  rintro e w2 ⟨rfl, b2⟩
  have HB2 : Hid (Below (w.heap.size + 1) (w.alloc (.cells #[.int .i64 size, .slice a l.length cap] 24)) w2) := box2 HB1.out b2
  clear b2 c1 c2
  have c1 : w2.cell? ⟨w.heap.size, 0, none⟩ = some (.int .i64 size) := boxc HB2.out 0
  have c2 : w2.cell? ⟨w.heap.size, 1, none⟩ = some (.slice a l.length cap) := boxc HB2.out 1
  go_wp2_with fail
  refine (H3.out _ (of_alloc HB2.out)).mono ?_
  rintro e w3 ⟨rfl, b3⟩
  have HB3 : Hid (Below (w.heap.size + 1) (w.alloc (.cells #[.int .i64 size, .slice a l.length cap] 24)) w3) := box2 HB2.out b3
  clear b3 c1 c2
  have c1 : w3.cell? ⟨w.heap.size, 0, none⟩ = some (.int .i64 size) := boxc HB3.out 0
  have c2 : w3.cell? ⟨w.heap.size, 1, none⟩ = some (.slice a l.length cap) := boxc HB3.out 1
  go_wp2_with fail
  refine (H4.out _ (of_alloc HB3.out)).mono ?_
  rintro e w4 ⟨rfl, b4⟩
  have HB4 : Hid (Below (w.heap.size + 1) (w.alloc (.cells #[.int .i64 size, .slice a l.length cap] 24)) w4) := box2 HB3.out b4
  clear b4 c1 c2
  have c1 : w4.cell? ⟨w.heap.size, 0, none⟩ = some (.int .i64 size) := boxc HB4.out 0
  have c2 : w4.cell? ⟨w.heap.size, 1, none⟩ = some (.slice a l.length cap) := boxc HB4.out 1
  go_wp2_with fail
  go_ret
  exact ⟨by simp, of_alloc HB4.out⟩
set_option maxRecDepth 10000 in
set_option maxHeartbeats 800000 in
theorem tells_COTB (size t f u : Int) (a : Option Addr) (cap : Nat) (l : List Sp) (w : World) (hr : Sps w a l) (hl : l.length ≤ maxLen) (hk : chk size l = 0) (f1 : 0 ≤ f) (f2 : f ≤ u) (f3 : u ≤ 1099511627776) (t1 : ¬ (0 ≤ t ∧ t ≤ 1099511627776)) :
    Calls Try.prog 5 #[.agg #[.int .i64 size, .slice a l.length cap], .int .i64 t, .int .i64 f, .int .i64 u] w fun e w' => e = .returned (.bool true) ∧ Below w.heap.size w w' := by
  obtain ⟨s1, s2, s3, s4⟩ := chk_zero hk
  have H4 : Hid (∀ W, Below w.heap.size w W → Calls Try.prog 19 #[.agg #[.int .i64 size, .slice a l.length cap]] W fun e w' => e = .returned (.int .i64 0) ∧ Below W.heap.size W w') := fun W h => by
    have := right_any size a cap l W (hr.below h (Nat.le_refl _)); rwa [hk] at this
  have HI : Hid (∀ m W, Below w.heap.size w W → Calls Try.prog 17 #[.slice a l.length cap, .int .i64 m] W fun e w' => e = .returned (.bool (mem l m)) ∧ Below W.heap.size W w') := fun m W h => inSpans_any a cap l m W (hr.below h (Nat.le_refl _)) hl
  have HC : Hid (∀ m W, Below w.heap.size w W → 0 ≤ m → m ≤ 2199023255552 → Calls Try.prog 31 #[.agg #[.int .i64 size, .slice a l.length cap], .int .i64 m] W fun e w' => e = .returned (.int .i64 (cb size l m)) ∧ Below W.heap.size W w') := fun m W h h1 h2 => countOf_any size m a cap l W (hr.below h (Nat.le_refl _)) hk h1 h2
  have H3 : Hid _ := fun W (h : Below w.heap.size w W) => count_ok size f u a cap l W (hr.below h (Nat.le_refl _)) hk f1 f2 f3
  obtain ⟨x1, x2⟩ := cb_le hk (by omega : 0 ≤ u) f3
  obtain ⟨x3, x4⟩ := cb_le hk f1 (by omega : f ≤ 1099511627776)
  have H1 : Hid _ := fun W (h : Below w.heap.size w W) => has_arg size t a cap l W (hr.below h (Nat.le_refl _)) hk t1
  have H2 : Hid _ := fun W (h : Below w.heap.size w W) => next_arg size t a cap l W (hr.below h (Nat.le_refl _)) hk t1
  clear hr hk hl s4
  have hwr : IntKind.i64.wrap (cb size l u - cb size l f) = cb size l u - cb size l f := by simp (disch := omega) only [IntWalk.i64_in]
  go_enter Try.func5, Try.ntmps5
  go_wp2_with fail
  refine (H1.out _ (by go_grown)).mono ?_
  rintro e w1 ⟨rfl, b1⟩
  have HB1 : Hid (Below (w.heap.size + 1) (w.alloc (.cells #[.int .i64 size, .slice a l.length cap] 24)) w1) := box1 b1
  clear b1
  have c1 : w1.cell? ⟨w.heap.size, 0, none⟩ = some (.int .i64 size) := boxc HB1.out 0
  have c2 : w1.cell? ⟨w.heap.size, 1, none⟩ = some (.slice a l.length cap) := boxc HB1.out 1
  go_wp2_with fail
  refine (H2.out _ (of_alloc HB1.out)).mono ?_
  rintro e w2 ⟨rfl, b2⟩
  have HB2 : Hid (Below (w.heap.size + 1) (w.alloc (.cells #[.int .i64 size, .slice a l.length cap] 24)) w2) := box2 HB1.out b2
  clear b2 c1 c2
  have c1 : w2.cell? ⟨w.heap.size, 0, none⟩ = some (.int .i64 size) := boxc HB2.out 0
  have c2 : w2.cell? ⟨w.heap.size, 1, none⟩ = some (.slice a l.length cap) := boxc HB2.out 1
  go_wp2_with fail
  refine (H3.out _ (of_alloc HB2.out)).mono ?_
  rintro e w3 ⟨rfl, b3⟩
  have HB3 : Hid (Below (w.heap.size + 1) (w.alloc (.cells #[.int .i64 size, .slice a l.length cap] 24)) w3) := box2 HB2.out b3
  clear b3 c1 c2
  have c1 : w3.cell? ⟨w.heap.size, 0, none⟩ = some (.int .i64 size) := boxc HB3.out 0
  have c2 : w3.cell? ⟨w.heap.size, 1, none⟩ = some (.slice a l.length cap) := boxc HB3.out 1
  go_wp2_with fail
  refine (H4.out _ (of_alloc HB3.out)).mono ?_
  rintro e w4 ⟨rfl, b4⟩
  have HB4 : Hid (Below (w.heap.size + 1) (w.alloc (.cells #[.int .i64 size, .slice a l.length cap] 24)) w4) := box2 HB3.out b4
  clear b4 c1 c2
  have c1 : w4.cell? ⟨w.heap.size, 0, none⟩ = some (.int .i64 size) := boxc HB4.out 0
  have c2 : w4.cell? ⟨w.heap.size, 1, none⟩ = some (.slice a l.length cap) := boxc HB4.out 1
  go_wp2_with fail
  refine (between_yes _ _ _ _ f1 f2).mono ?_
  rintro e w' ⟨rfl, rfl⟩
  go_wp2_with fail
  have p0 := BelowOf.cell c1
  have p1 := BelowOf.cell c2
  refine wp_region_quiet_below (by kernel_rfl) (by kernel_rfl) ?_
  repeat (first | go_big_quiet_step (((rename_i p; refine Calls.below_of p (HC.out _ _ (bel_of (of_alloc HB4.out) p.hb) (by omega) (by omega))))) | quiet_step (((rename_i p; refine Calls.below_of p (HC.out _ _ (bel_of (of_alloc HB4.out) p.hb) (by omega) (by omega))))))
  refine wpQuiet_nil ?_
  rintro w5 ⟨p, hp⟩
  have b5 := p.hb
  rw [← hp] at b5
  clear hp p
  clear p0 p1
  have HB5 : Hid (Below (w.heap.size + 1) (w.alloc (.cells #[.int .i64 size, .slice a l.length cap] 24)) w5) := box2 HB4.out b5
  clear b5 c1 c2
  have c1 : w5.cell? ⟨w.heap.size, 0, none⟩ = some (.int .i64 size) := boxc HB5.out 0
  have c2 : w5.cell? ⟨w.heap.size, 1, none⟩ = some (.slice a l.length cap) := boxc HB5.out 1
  go_wp2_with fail
  refine (between_no _ _ _ _ t1).mono ?_
  rintro e w' ⟨rfl, rfl⟩
  go_wp2_with fail
  go_ret
  exact ⟨by first | rfl | simp, of_alloc HB5.out⟩
set_option maxRecDepth 10000 in
set_option maxHeartbeats 800000 in
theorem tells_COTE (size t f u : Int) (a : Option Addr) (cap : Nat) (l : List Sp) (w : World) (hr : Sps w a l) (hl : l.length ≤ maxLen) (hk : chk size l = 0) (f1 : 0 ≤ f) (f2 : f ≤ u) (f3 : u ≤ 1099511627776) (t1 : 0 ≤ t) (t2 : t ≤ 1099511627776) (he : l = []) :
    Calls Try.prog 5 #[.agg #[.int .i64 size, .slice a l.length cap], .int .i64 t, .int .i64 f, .int .i64 u] w fun e w' => e = .returned (.bool true) ∧ Below w.heap.size w w' := by
  obtain ⟨s1, s2, s3, s4⟩ := chk_zero hk
  have H4 : Hid (∀ W, Below w.heap.size w W → Calls Try.prog 19 #[.agg #[.int .i64 size, .slice a l.length cap]] W fun e w' => e = .returned (.int .i64 0) ∧ Below W.heap.size W w') := fun W h => by
    have := right_any size a cap l W (hr.below h (Nat.le_refl _)); rwa [hk] at this
  have HI : Hid (∀ m W, Below w.heap.size w W → Calls Try.prog 17 #[.slice a l.length cap, .int .i64 m] W fun e w' => e = .returned (.bool (mem l m)) ∧ Below W.heap.size W w') := fun m W h => inSpans_any a cap l m W (hr.below h (Nat.le_refl _)) hl
  have HC : Hid (∀ m W, Below w.heap.size w W → 0 ≤ m → m ≤ 2199023255552 → Calls Try.prog 31 #[.agg #[.int .i64 size, .slice a l.length cap], .int .i64 m] W fun e w' => e = .returned (.int .i64 (cb size l m)) ∧ Below W.heap.size W w') := fun m W h h1 h2 => countOf_any size m a cap l W (hr.below h (Nat.le_refl _)) hk h1 h2
  have H3 : Hid _ := fun W (h : Below w.heap.size w W) => count_ok size f u a cap l W (hr.below h (Nat.le_refl _)) hk f1 f2 f3
  obtain ⟨x1, x2⟩ := cb_le hk (by omega : 0 ≤ u) f3
  obtain ⟨x3, x4⟩ := cb_le hk f1 (by omega : f ≤ 1099511627776)
  have H1 : Hid _ := fun W (h : Below w.heap.size w W) => has_ok size t a cap l W (hr.below h (Nat.le_refl _)) hk t1 t2
  have m1 := Int.emod_nonneg t (show size ≠ 0 by omega)
  have m2 := Int.emod_lt_of_pos t (show 0 < size by omega)
  have H2 : Hid (∀ W, Below w.heap.size w W → Calls Try.prog 29 #[.agg #[.int .i64 size, .slice a l.length cap], .int .i64 t] W fun e w' => e = .returned (.tuple #[.int .i64 0, .int .i64 7]) ∧ Below W.heap.size W w') := fun W h => by
    subst he; exact next_none size t a cap W hk t1 t2
  have hnz : ((l.length : Int) == 0) = true := by rw [he]; rfl
  clear he
  clear hr hk hl s4
  have hwr : IntKind.i64.wrap (cb size l u - cb size l f) = cb size l u - cb size l f := by simp (disch := omega) only [IntWalk.i64_in]
  go_enter Try.func5, Try.ntmps5
  go_wp2_with fail
  refine (H1.out _ (by go_grown)).mono ?_
  rintro e w1 ⟨rfl, b1⟩
  have HB1 : Hid (Below (w.heap.size + 1) (w.alloc (.cells #[.int .i64 size, .slice a l.length cap] 24)) w1) := box1 b1
  clear b1
  have c1 : w1.cell? ⟨w.heap.size, 0, none⟩ = some (.int .i64 size) := boxc HB1.out 0
  have c2 : w1.cell? ⟨w.heap.size, 1, none⟩ = some (.slice a l.length cap) := boxc HB1.out 1
  go_wp2_with fail
  refine (H2.out _ (of_alloc HB1.out)).mono ?_
  rintro e w2 ⟨rfl, b2⟩
  have HB2 : Hid (Below (w.heap.size + 1) (w.alloc (.cells #[.int .i64 size, .slice a l.length cap] 24)) w2) := box2 HB1.out b2
  clear b2 c1 c2
  have c1 : w2.cell? ⟨w.heap.size, 0, none⟩ = some (.int .i64 size) := boxc HB2.out 0
  have c2 : w2.cell? ⟨w.heap.size, 1, none⟩ = some (.slice a l.length cap) := boxc HB2.out 1
  go_wp2_with fail
  refine (H3.out _ (of_alloc HB2.out)).mono ?_
  rintro e w3 ⟨rfl, b3⟩
  have HB3 : Hid (Below (w.heap.size + 1) (w.alloc (.cells #[.int .i64 size, .slice a l.length cap] 24)) w3) := box2 HB2.out b3
  clear b3 c1 c2
  have c1 : w3.cell? ⟨w.heap.size, 0, none⟩ = some (.int .i64 size) := boxc HB3.out 0
  have c2 : w3.cell? ⟨w.heap.size, 1, none⟩ = some (.slice a l.length cap) := boxc HB3.out 1
  go_wp2_with fail
  refine (H4.out _ (of_alloc HB3.out)).mono ?_
  rintro e w4 ⟨rfl, b4⟩
  have HB4 : Hid (Below (w.heap.size + 1) (w.alloc (.cells #[.int .i64 size, .slice a l.length cap] 24)) w4) := box2 HB3.out b4
  clear b4 c1 c2
  have c1 : w4.cell? ⟨w.heap.size, 0, none⟩ = some (.int .i64 size) := boxc HB4.out 0
  have c2 : w4.cell? ⟨w.heap.size, 1, none⟩ = some (.slice a l.length cap) := boxc HB4.out 1
  go_wp2_with fail
  refine (between_yes _ _ _ _ f1 f2).mono ?_
  rintro e w' ⟨rfl, rfl⟩
  go_wp2_with fail
  have p0 := BelowOf.cell c1
  have p1 := BelowOf.cell c2
  refine wp_region_quiet_below (by kernel_rfl) (by kernel_rfl) ?_
  repeat (first | go_big_quiet_step (((rename_i p; refine Calls.below_of p (HC.out _ _ (bel_of (of_alloc HB4.out) p.hb) (by omega) (by omega))))) | quiet_step (((rename_i p; refine Calls.below_of p (HC.out _ _ (bel_of (of_alloc HB4.out) p.hb) (by omega) (by omega))))))
  refine wpQuiet_nil ?_
  rintro w5 ⟨p, hp⟩
  have b5 := p.hb
  rw [← hp] at b5
  clear hp p
  clear p0 p1
  have HB5 : Hid (Below (w.heap.size + 1) (w.alloc (.cells #[.int .i64 size, .slice a l.length cap] 24)) w5) := box2 HB4.out b5
  clear b5 c1 c2
  have c1 : w5.cell? ⟨w.heap.size, 0, none⟩ = some (.int .i64 size) := boxc HB5.out 0
  have c2 : w5.cell? ⟨w.heap.size, 1, none⟩ = some (.slice a l.length cap) := boxc HB5.out 1
  go_wp2_with fail
  refine (between_yes _ _ _ _ t1 t2).mono ?_
  rintro e w' ⟨rfl, rfl⟩
  go_wp2_with fail
  have p0 := BelowOf.cell c1
  have p1 := BelowOf.cell c2
  refine wp_region_quiet_below (by kernel_rfl) (by kernel_rfl) ?_
  repeat (first | go_big_quiet_step (((rename_i p; refine Calls.below_of p (HI.out _ _ (bel_of (of_alloc HB5.out) p.hb))))) | quiet_step (((rename_i p; refine Calls.below_of p (HI.out _ _ (bel_of (of_alloc HB5.out) p.hb))))))
  refine wpQuiet_nil ?_
  rintro w6 ⟨p, hp⟩
  have b6 := p.hb
  rw [← hp] at b6
  clear hp p
  clear p0 p1
  have HB6 : Hid (Below (w.heap.size + 1) (w.alloc (.cells #[.int .i64 size, .slice a l.length cap] 24)) w6) := box2 HB5.out b6
  clear b6 c1 c2
  have c1 : w6.cell? ⟨w.heap.size, 0, none⟩ = some (.int .i64 size) := boxc HB6.out 0
  have c2 : w6.cell? ⟨w.heap.size, 1, none⟩ = some (.slice a l.length cap) := boxc HB6.out 1
  go_wp2_with fail
  go_ret
  exact ⟨by first | rfl | simp, of_alloc HB6.out⟩
set_option maxRecDepth 10000 in
set_option maxHeartbeats 800000 in
theorem tells_COTN (size t f u : Int) (a : Option Addr) (cap : Nat) (l : List Sp) (w : World) (hr : Sps w a l) (hl : l.length ≤ maxLen) (hk : chk size l = 0) (f1 : 0 ≤ f) (f2 : f ≤ u) (f3 : u ≤ 1099511627776) (t1 : 0 ≤ t) (t2 : t ≤ 1099511627776) (hne : l ≠ []) :
    Calls Try.prog 5 #[.agg #[.int .i64 size, .slice a l.length cap], .int .i64 t, .int .i64 f, .int .i64 u] w fun e w' => e = .returned (.bool true) ∧ Below w.heap.size w w' := by
  obtain ⟨s1, s2, s3, s4⟩ := chk_zero hk
  have H4 : Hid (∀ W, Below w.heap.size w W → Calls Try.prog 19 #[.agg #[.int .i64 size, .slice a l.length cap]] W fun e w' => e = .returned (.int .i64 0) ∧ Below W.heap.size W w') := fun W h => by
    have := right_any size a cap l W (hr.below h (Nat.le_refl _)); rwa [hk] at this
  have HI : Hid (∀ m W, Below w.heap.size w W → Calls Try.prog 17 #[.slice a l.length cap, .int .i64 m] W fun e w' => e = .returned (.bool (mem l m)) ∧ Below W.heap.size W w') := fun m W h => inSpans_any a cap l m W (hr.below h (Nat.le_refl _)) hl
  have HC : Hid (∀ m W, Below w.heap.size w W → 0 ≤ m → m ≤ 2199023255552 → Calls Try.prog 31 #[.agg #[.int .i64 size, .slice a l.length cap], .int .i64 m] W fun e w' => e = .returned (.int .i64 (cb size l m)) ∧ Below W.heap.size W w') := fun m W h h1 h2 => countOf_any size m a cap l W (hr.below h (Nat.le_refl _)) hk h1 h2
  have H3 : Hid _ := fun W (h : Below w.heap.size w W) => count_ok size f u a cap l W (hr.below h (Nat.le_refl _)) hk f1 f2 f3
  obtain ⟨x1, x2⟩ := cb_le hk (by omega : 0 ≤ u) f3
  obtain ⟨x3, x4⟩ := cb_le hk f1 (by omega : f ≤ 1099511627776)
  have H1 : Hid _ := fun W (h : Below w.heap.size w W) => has_ok size t a cap l W (hr.below h (Nat.le_refl _)) hk t1 t2
  have m1 := Int.emod_nonneg t (show size ≠ 0 by omega)
  have m2 := Int.emod_lt_of_pos t (show 0 < size by omega)
  have H2 : Hid _ := fun W (h : Below w.heap.size w W) => next_ok size t a cap l W (hr.below h (Nat.le_refl _)) hk t1 t2 hne
  have hnz : ((l.length : Int) == 0) = false := by rw [beq_eq_false_iff_ne]; have := List.length_pos_iff.2 hne; omega
  have HS : Hid (good size (-1) l = true) := s4
  clear hr hk hl s4 hne
  have hwr : IntKind.i64.wrap (cb size l u - cb size l f) = cb size l u - cb size l f := by simp (disch := omega) only [IntWalk.i64_in]
  go_enter Try.func5, Try.ntmps5
  go_wp2_with fail
  refine (H1.out _ (by go_grown)).mono ?_
  rintro e w1 ⟨rfl, b1⟩
  have HB1 : Hid (Below (w.heap.size + 1) (w.alloc (.cells #[.int .i64 size, .slice a l.length cap] 24)) w1) := box1 b1
  clear b1
  have c1 : w1.cell? ⟨w.heap.size, 0, none⟩ = some (.int .i64 size) := boxc HB1.out 0
  have c2 : w1.cell? ⟨w.heap.size, 1, none⟩ = some (.slice a l.length cap) := boxc HB1.out 1
  go_wp2_with fail
  refine (H2.out _ (of_alloc HB1.out)).mono ?_
  rintro e w2 ⟨n, rfl, hn, b2⟩
  have n1 := hn.1
  have n2 := hn.2.1
  have n3 := Int.emod_nonneg n (show size ≠ 0 by omega)
  have n4 := Int.emod_lt_of_pos n (show 0 < size by omega)
  have HN1 : Hid (mem l (n % size) = true) := hn.2.2.1
  have HN2 : Hid (cb size l n = cb size l t) := cb_next s1 HS.out t1 hn
  clear hn
  have HB2 : Hid (Below (w.heap.size + 1) (w.alloc (.cells #[.int .i64 size, .slice a l.length cap] 24)) w2) := box2 HB1.out b2
  clear b2 c1 c2
  have c1 : w2.cell? ⟨w.heap.size, 0, none⟩ = some (.int .i64 size) := boxc HB2.out 0
  have c2 : w2.cell? ⟨w.heap.size, 1, none⟩ = some (.slice a l.length cap) := boxc HB2.out 1
  go_wp2_with fail
  refine (H3.out _ (of_alloc HB2.out)).mono ?_
  rintro e w3 ⟨rfl, b3⟩
  have HB3 : Hid (Below (w.heap.size + 1) (w.alloc (.cells #[.int .i64 size, .slice a l.length cap] 24)) w3) := box2 HB2.out b3
  clear b3 c1 c2
  have c1 : w3.cell? ⟨w.heap.size, 0, none⟩ = some (.int .i64 size) := boxc HB3.out 0
  have c2 : w3.cell? ⟨w.heap.size, 1, none⟩ = some (.slice a l.length cap) := boxc HB3.out 1
  go_wp2_with fail
  refine (H4.out _ (of_alloc HB3.out)).mono ?_
  rintro e w4 ⟨rfl, b4⟩
  have HB4 : Hid (Below (w.heap.size + 1) (w.alloc (.cells #[.int .i64 size, .slice a l.length cap] 24)) w4) := box2 HB3.out b4
  clear b4 c1 c2
  have c1 : w4.cell? ⟨w.heap.size, 0, none⟩ = some (.int .i64 size) := boxc HB4.out 0
  have c2 : w4.cell? ⟨w.heap.size, 1, none⟩ = some (.slice a l.length cap) := boxc HB4.out 1
  go_wp2_with fail
  refine (between_yes _ _ _ _ f1 f2).mono ?_
  rintro e w' ⟨rfl, rfl⟩
  go_wp2_with fail
  have p0 := BelowOf.cell c1
  have p1 := BelowOf.cell c2
  refine wp_region_quiet_below (by kernel_rfl) (by kernel_rfl) ?_
  repeat (first | go_big_quiet_step (((rename_i p; refine Calls.below_of p (HC.out _ _ (bel_of (of_alloc HB4.out) p.hb) (by omega) (by omega))))) | quiet_step (((rename_i p; refine Calls.below_of p (HC.out _ _ (bel_of (of_alloc HB4.out) p.hb) (by omega) (by omega))))))
  refine wpQuiet_nil ?_
  rintro w5 ⟨p, hp⟩
  have b5 := p.hb
  rw [← hp] at b5
  clear hp p
  clear p0 p1
  have HB5 : Hid (Below (w.heap.size + 1) (w.alloc (.cells #[.int .i64 size, .slice a l.length cap] 24)) w5) := box2 HB4.out b5
  clear b5 c1 c2
  have c1 : w5.cell? ⟨w.heap.size, 0, none⟩ = some (.int .i64 size) := boxc HB5.out 0
  have c2 : w5.cell? ⟨w.heap.size, 1, none⟩ = some (.slice a l.length cap) := boxc HB5.out 1
  go_wp2_with fail
  refine (between_yes _ _ _ _ t1 t2).mono ?_
  rintro e w' ⟨rfl, rfl⟩
  go_wp2_with fail
  have p0 := BelowOf.cell c1
  have p1 := BelowOf.cell c2
  refine wp_region_quiet_below (by kernel_rfl) (by kernel_rfl) ?_
  repeat (first | go_big_quiet_step (((rename_i p; refine Calls.below_of p (HI.out _ _ (bel_of (of_alloc HB5.out) p.hb))))) | quiet_step (((rename_i p; refine Calls.below_of p (HI.out _ _ (bel_of (of_alloc HB5.out) p.hb))))))
  refine wpQuiet_nil ?_
  rintro w6 ⟨p, hp⟩
  have b6 := p.hb
  rw [← hp] at b6
  clear hp p
  clear p0 p1
  have HB6 : Hid (Below (w.heap.size + 1) (w.alloc (.cells #[.int .i64 size, .slice a l.length cap] 24)) w6) := box2 HB5.out b6
  clear b6 c1 c2
  have c1 : w6.cell? ⟨w.heap.size, 0, none⟩ = some (.int .i64 size) := boxc HB6.out 0
  have c2 : w6.cell? ⟨w.heap.size, 1, none⟩ = some (.slice a l.length cap) := boxc HB6.out 1
  have HI1 : Hid (∀ W, Below w.heap.size w W → Calls Try.prog 17 #[.slice a l.length cap, .int .i64 (n % size)] W fun e w' => e = .returned (.bool true) ∧ Below W.heap.size W w') := fun W h => by
    have := HI.out (n % size) W h; rwa [HN1.out] at this
  have HC1 : Hid (∀ W, Below w.heap.size w W → Calls Try.prog 31 #[.agg #[.int .i64 size, .slice a l.length cap], .int .i64 n] W fun e w' => e = .returned (.int .i64 (cb size l t)) ∧ Below W.heap.size W w') := fun W h => by
    have := HC.out n W h (by omega) (by omega); rwa [HN2.out] at this
  go_wp2_with fail
  have p0 := BelowOf.cell c1
  have p1 := BelowOf.cell c2
  refine wp_region_quiet_below (by kernel_rfl) (by kernel_rfl) ?_
  repeat (first | go_big_quiet_step ((first | (go_at_call 17; rename_i p; refine Calls.below_of p (HI1.out _ (bel_of (of_alloc HB6.out) p.hb))) | (go_at_call_of 31 (Value.int .i64 n); rename_i p; refine Calls.below_of p (HC1.out _ (bel_of (of_alloc HB6.out) p.hb))) | (go_at_call_of 31 (Value.int .i64 t); rename_i p; refine Calls.below_of p (HC.out t _ (bel_of (of_alloc HB6.out) p.hb) (by omega) (by omega))))) | quiet_step ((first | (go_at_call 17; rename_i p; refine Calls.below_of p (HI1.out _ (bel_of (of_alloc HB6.out) p.hb))) | (go_at_call_of 31 (Value.int .i64 n); rename_i p; refine Calls.below_of p (HC1.out _ (bel_of (of_alloc HB6.out) p.hb))) | (go_at_call_of 31 (Value.int .i64 t); rename_i p; refine Calls.below_of p (HC.out t _ (bel_of (of_alloc HB6.out) p.hb) (by omega) (by omega))))))
  refine wpQuiet_nil ?_
  rintro w7 ⟨p, hp⟩
  have b7 := p.hb
  rw [← hp] at b7
  clear hp p
  clear p0 p1
  have HB7 : Hid (Below (w.heap.size + 1) (w.alloc (.cells #[.int .i64 size, .slice a l.length cap] 24)) w7) := box2 HB6.out b7
  clear b7 c1 c2
  have c1 : w7.cell? ⟨w.heap.size, 0, none⟩ = some (.int .i64 size) := boxc HB7.out 0
  have c2 : w7.cell? ⟨w.heap.size, 1, none⟩ = some (.slice a l.length cap) := boxc HB7.out 1
  go_wp2_with fail
  go_ret
  exact ⟨by first | rfl | simp, of_alloc HB7.out⟩
set_option maxRecDepth 10000 in
set_option maxHeartbeats 800000 in
theorem tells_CATB (size t f u : Int) (a : Option Addr) (cap : Nat) (l : List Sp) (w : World) (hr : Sps w a l) (hl : l.length ≤ maxLen) (hk : chk size l = 0) (f1 : ¬ (0 ≤ f ∧ f ≤ u)) (t1 : ¬ (0 ≤ t ∧ t ≤ 1099511627776)) :
    Calls Try.prog 5 #[.agg #[.int .i64 size, .slice a l.length cap], .int .i64 t, .int .i64 f, .int .i64 u] w fun e w' => e = .returned (.bool true) ∧ Below w.heap.size w w' := by
  obtain ⟨s1, s2, s3, s4⟩ := chk_zero hk
  have H4 : Hid (∀ W, Below w.heap.size w W → Calls Try.prog 19 #[.agg #[.int .i64 size, .slice a l.length cap]] W fun e w' => e = .returned (.int .i64 0) ∧ Below W.heap.size W w') := fun W h => by
    have := right_any size a cap l W (hr.below h (Nat.le_refl _)); rwa [hk] at this
  have HI : Hid (∀ m W, Below w.heap.size w W → Calls Try.prog 17 #[.slice a l.length cap, .int .i64 m] W fun e w' => e = .returned (.bool (mem l m)) ∧ Below W.heap.size W w') := fun m W h => inSpans_any a cap l m W (hr.below h (Nat.le_refl _)) hl
  have HC : Hid (∀ m W, Below w.heap.size w W → 0 ≤ m → m ≤ 2199023255552 → Calls Try.prog 31 #[.agg #[.int .i64 size, .slice a l.length cap], .int .i64 m] W fun e w' => e = .returned (.int .i64 (cb size l m)) ∧ Below W.heap.size W w') := fun m W h h1 h2 => countOf_any size m a cap l W (hr.below h (Nat.le_refl _)) hk h1 h2
  have H3 : Hid _ := fun W (h : Below w.heap.size w W) => count_arg size f u a cap l W (hr.below h (Nat.le_refl _)) hk (by omega)
  have H1 : Hid _ := fun W (h : Below w.heap.size w W) => has_arg size t a cap l W (hr.below h (Nat.le_refl _)) hk t1
  have H2 : Hid _ := fun W (h : Below w.heap.size w W) => next_arg size t a cap l W (hr.below h (Nat.le_refl _)) hk t1
  clear hr hk hl s4
  go_enter Try.func5, Try.ntmps5
  go_wp2_with fail
  refine (H1.out _ (by go_grown)).mono ?_
  rintro e w1 ⟨rfl, b1⟩
  have HB1 : Hid (Below (w.heap.size + 1) (w.alloc (.cells #[.int .i64 size, .slice a l.length cap] 24)) w1) := box1 b1
  clear b1
  have c1 : w1.cell? ⟨w.heap.size, 0, none⟩ = some (.int .i64 size) := boxc HB1.out 0
  have c2 : w1.cell? ⟨w.heap.size, 1, none⟩ = some (.slice a l.length cap) := boxc HB1.out 1
  go_wp2_with fail
  refine (H2.out _ (of_alloc HB1.out)).mono ?_
  rintro e w2 ⟨rfl, b2⟩
  have HB2 : Hid (Below (w.heap.size + 1) (w.alloc (.cells #[.int .i64 size, .slice a l.length cap] 24)) w2) := box2 HB1.out b2
  clear b2 c1 c2
  have c1 : w2.cell? ⟨w.heap.size, 0, none⟩ = some (.int .i64 size) := boxc HB2.out 0
  have c2 : w2.cell? ⟨w.heap.size, 1, none⟩ = some (.slice a l.length cap) := boxc HB2.out 1
  go_wp2_with fail
  refine (H3.out _ (of_alloc HB2.out)).mono ?_
  rintro e w3 ⟨rfl, b3⟩
  have HB3 : Hid (Below (w.heap.size + 1) (w.alloc (.cells #[.int .i64 size, .slice a l.length cap] 24)) w3) := box2 HB2.out b3
  clear b3 c1 c2
  have c1 : w3.cell? ⟨w.heap.size, 0, none⟩ = some (.int .i64 size) := boxc HB3.out 0
  have c2 : w3.cell? ⟨w.heap.size, 1, none⟩ = some (.slice a l.length cap) := boxc HB3.out 1
  go_wp2_with fail
  refine (H4.out _ (of_alloc HB3.out)).mono ?_
  rintro e w4 ⟨rfl, b4⟩
  have HB4 : Hid (Below (w.heap.size + 1) (w.alloc (.cells #[.int .i64 size, .slice a l.length cap] 24)) w4) := box2 HB3.out b4
  clear b4 c1 c2
  have c1 : w4.cell? ⟨w.heap.size, 0, none⟩ = some (.int .i64 size) := boxc HB4.out 0
  have c2 : w4.cell? ⟨w.heap.size, 1, none⟩ = some (.slice a l.length cap) := boxc HB4.out 1
  go_wp2_with fail
  refine (between_no _ _ _ _ f1).mono ?_
  rintro e w' ⟨rfl, rfl⟩
  go_wp2_with fail
  refine (between_no _ _ _ _ t1).mono ?_
  rintro e w' ⟨rfl, rfl⟩
  go_wp2_with fail
  go_ret
  exact ⟨by first | rfl | simp, of_alloc HB4.out⟩
set_option maxRecDepth 10000 in
set_option maxHeartbeats 800000 in
theorem tells_CATE (size t f u : Int) (a : Option Addr) (cap : Nat) (l : List Sp) (w : World) (hr : Sps w a l) (hl : l.length ≤ maxLen) (hk : chk size l = 0) (f1 : ¬ (0 ≤ f ∧ f ≤ u)) (t1 : 0 ≤ t) (t2 : t ≤ 1099511627776) (he : l = []) :
    Calls Try.prog 5 #[.agg #[.int .i64 size, .slice a l.length cap], .int .i64 t, .int .i64 f, .int .i64 u] w fun e w' => e = .returned (.bool true) ∧ Below w.heap.size w w' := by
  obtain ⟨s1, s2, s3, s4⟩ := chk_zero hk
  have H4 : Hid (∀ W, Below w.heap.size w W → Calls Try.prog 19 #[.agg #[.int .i64 size, .slice a l.length cap]] W fun e w' => e = .returned (.int .i64 0) ∧ Below W.heap.size W w') := fun W h => by
    have := right_any size a cap l W (hr.below h (Nat.le_refl _)); rwa [hk] at this
  have HI : Hid (∀ m W, Below w.heap.size w W → Calls Try.prog 17 #[.slice a l.length cap, .int .i64 m] W fun e w' => e = .returned (.bool (mem l m)) ∧ Below W.heap.size W w') := fun m W h => inSpans_any a cap l m W (hr.below h (Nat.le_refl _)) hl
  have HC : Hid (∀ m W, Below w.heap.size w W → 0 ≤ m → m ≤ 2199023255552 → Calls Try.prog 31 #[.agg #[.int .i64 size, .slice a l.length cap], .int .i64 m] W fun e w' => e = .returned (.int .i64 (cb size l m)) ∧ Below W.heap.size W w') := fun m W h h1 h2 => countOf_any size m a cap l W (hr.below h (Nat.le_refl _)) hk h1 h2
  have H3 : Hid _ := fun W (h : Below w.heap.size w W) => count_arg size f u a cap l W (hr.below h (Nat.le_refl _)) hk (by omega)
  have H1 : Hid _ := fun W (h : Below w.heap.size w W) => has_ok size t a cap l W (hr.below h (Nat.le_refl _)) hk t1 t2
  have m1 := Int.emod_nonneg t (show size ≠ 0 by omega)
  have m2 := Int.emod_lt_of_pos t (show 0 < size by omega)
  have H2 : Hid (∀ W, Below w.heap.size w W → Calls Try.prog 29 #[.agg #[.int .i64 size, .slice a l.length cap], .int .i64 t] W fun e w' => e = .returned (.tuple #[.int .i64 0, .int .i64 7]) ∧ Below W.heap.size W w') := fun W h => by
    subst he; exact next_none size t a cap W hk t1 t2
  have hnz : ((l.length : Int) == 0) = true := by rw [he]; rfl
  clear he
  clear hr hk hl s4
  go_enter Try.func5, Try.ntmps5
  go_wp2_with fail
  refine (H1.out _ (by go_grown)).mono ?_
  rintro e w1 ⟨rfl, b1⟩
  have HB1 : Hid (Below (w.heap.size + 1) (w.alloc (.cells #[.int .i64 size, .slice a l.length cap] 24)) w1) := box1 b1
  clear b1
  have c1 : w1.cell? ⟨w.heap.size, 0, none⟩ = some (.int .i64 size) := boxc HB1.out 0
  have c2 : w1.cell? ⟨w.heap.size, 1, none⟩ = some (.slice a l.length cap) := boxc HB1.out 1
  go_wp2_with fail
  refine (H2.out _ (of_alloc HB1.out)).mono ?_
  rintro e w2 ⟨rfl, b2⟩
  have HB2 : Hid (Below (w.heap.size + 1) (w.alloc (.cells #[.int .i64 size, .slice a l.length cap] 24)) w2) := box2 HB1.out b2
  clear b2 c1 c2
  have c1 : w2.cell? ⟨w.heap.size, 0, none⟩ = some (.int .i64 size) := boxc HB2.out 0
  have c2 : w2.cell? ⟨w.heap.size, 1, none⟩ = some (.slice a l.length cap) := boxc HB2.out 1
  go_wp2_with fail
  refine (H3.out _ (of_alloc HB2.out)).mono ?_
  rintro e w3 ⟨rfl, b3⟩
  have HB3 : Hid (Below (w.heap.size + 1) (w.alloc (.cells #[.int .i64 size, .slice a l.length cap] 24)) w3) := box2 HB2.out b3
  clear b3 c1 c2
  have c1 : w3.cell? ⟨w.heap.size, 0, none⟩ = some (.int .i64 size) := boxc HB3.out 0
  have c2 : w3.cell? ⟨w.heap.size, 1, none⟩ = some (.slice a l.length cap) := boxc HB3.out 1
  go_wp2_with fail
  refine (H4.out _ (of_alloc HB3.out)).mono ?_
  rintro e w4 ⟨rfl, b4⟩
  have HB4 : Hid (Below (w.heap.size + 1) (w.alloc (.cells #[.int .i64 size, .slice a l.length cap] 24)) w4) := box2 HB3.out b4
  clear b4 c1 c2
  have c1 : w4.cell? ⟨w.heap.size, 0, none⟩ = some (.int .i64 size) := boxc HB4.out 0
  have c2 : w4.cell? ⟨w.heap.size, 1, none⟩ = some (.slice a l.length cap) := boxc HB4.out 1
  go_wp2_with fail
  refine (between_no _ _ _ _ f1).mono ?_
  rintro e w' ⟨rfl, rfl⟩
  go_wp2_with fail
  refine (between_yes _ _ _ _ t1 t2).mono ?_
  rintro e w' ⟨rfl, rfl⟩
  go_wp2_with fail
  have p0 := BelowOf.cell c1
  have p1 := BelowOf.cell c2
  refine wp_region_quiet_below (by kernel_rfl) (by kernel_rfl) ?_
  repeat (first | go_big_quiet_step (((rename_i p; refine Calls.below_of p (HI.out _ _ (bel_of (of_alloc HB4.out) p.hb))))) | quiet_step (((rename_i p; refine Calls.below_of p (HI.out _ _ (bel_of (of_alloc HB4.out) p.hb))))))
  refine wpQuiet_nil ?_
  rintro w6 ⟨p, hp⟩
  have b6 := p.hb
  rw [← hp] at b6
  clear hp p
  clear p0 p1
  have HB6 : Hid (Below (w.heap.size + 1) (w.alloc (.cells #[.int .i64 size, .slice a l.length cap] 24)) w6) := box2 HB4.out b6
  clear b6 c1 c2
  have c1 : w6.cell? ⟨w.heap.size, 0, none⟩ = some (.int .i64 size) := boxc HB6.out 0
  have c2 : w6.cell? ⟨w.heap.size, 1, none⟩ = some (.slice a l.length cap) := boxc HB6.out 1
  go_wp2_with fail
  go_ret
  exact ⟨by first | rfl | simp, of_alloc HB6.out⟩
set_option maxRecDepth 10000 in
set_option maxHeartbeats 800000 in
theorem tells_CATN (size t f u : Int) (a : Option Addr) (cap : Nat) (l : List Sp) (w : World) (hr : Sps w a l) (hl : l.length ≤ maxLen) (hk : chk size l = 0) (f1 : ¬ (0 ≤ f ∧ f ≤ u)) (t1 : 0 ≤ t) (t2 : t ≤ 1099511627776) (hne : l ≠ []) :
    Calls Try.prog 5 #[.agg #[.int .i64 size, .slice a l.length cap], .int .i64 t, .int .i64 f, .int .i64 u] w fun e w' => e = .returned (.bool true) ∧ Below w.heap.size w w' := by
  obtain ⟨s1, s2, s3, s4⟩ := chk_zero hk
  have H4 : Hid (∀ W, Below w.heap.size w W → Calls Try.prog 19 #[.agg #[.int .i64 size, .slice a l.length cap]] W fun e w' => e = .returned (.int .i64 0) ∧ Below W.heap.size W w') := fun W h => by
    have := right_any size a cap l W (hr.below h (Nat.le_refl _)); rwa [hk] at this
  have HI : Hid (∀ m W, Below w.heap.size w W → Calls Try.prog 17 #[.slice a l.length cap, .int .i64 m] W fun e w' => e = .returned (.bool (mem l m)) ∧ Below W.heap.size W w') := fun m W h => inSpans_any a cap l m W (hr.below h (Nat.le_refl _)) hl
  have HC : Hid (∀ m W, Below w.heap.size w W → 0 ≤ m → m ≤ 2199023255552 → Calls Try.prog 31 #[.agg #[.int .i64 size, .slice a l.length cap], .int .i64 m] W fun e w' => e = .returned (.int .i64 (cb size l m)) ∧ Below W.heap.size W w') := fun m W h h1 h2 => countOf_any size m a cap l W (hr.below h (Nat.le_refl _)) hk h1 h2
  have H3 : Hid _ := fun W (h : Below w.heap.size w W) => count_arg size f u a cap l W (hr.below h (Nat.le_refl _)) hk (by omega)
  have H1 : Hid _ := fun W (h : Below w.heap.size w W) => has_ok size t a cap l W (hr.below h (Nat.le_refl _)) hk t1 t2
  have m1 := Int.emod_nonneg t (show size ≠ 0 by omega)
  have m2 := Int.emod_lt_of_pos t (show 0 < size by omega)
  have H2 : Hid _ := fun W (h : Below w.heap.size w W) => next_ok size t a cap l W (hr.below h (Nat.le_refl _)) hk t1 t2 hne
  have hnz : ((l.length : Int) == 0) = false := by rw [beq_eq_false_iff_ne]; have := List.length_pos_iff.2 hne; omega
  have HS : Hid (good size (-1) l = true) := s4
  clear hr hk hl s4 hne
  go_enter Try.func5, Try.ntmps5
  go_wp2_with fail
  refine (H1.out _ (by go_grown)).mono ?_
  rintro e w1 ⟨rfl, b1⟩
  have HB1 : Hid (Below (w.heap.size + 1) (w.alloc (.cells #[.int .i64 size, .slice a l.length cap] 24)) w1) := box1 b1
  clear b1
  have c1 : w1.cell? ⟨w.heap.size, 0, none⟩ = some (.int .i64 size) := boxc HB1.out 0
  have c2 : w1.cell? ⟨w.heap.size, 1, none⟩ = some (.slice a l.length cap) := boxc HB1.out 1
  go_wp2_with fail
  refine (H2.out _ (of_alloc HB1.out)).mono ?_
  rintro e w2 ⟨n, rfl, hn, b2⟩
  have n1 := hn.1
  have n2 := hn.2.1
  have n3 := Int.emod_nonneg n (show size ≠ 0 by omega)
  have n4 := Int.emod_lt_of_pos n (show 0 < size by omega)
  have HN1 : Hid (mem l (n % size) = true) := hn.2.2.1
  have HN2 : Hid (cb size l n = cb size l t) := cb_next s1 HS.out t1 hn
  clear hn
  have HB2 : Hid (Below (w.heap.size + 1) (w.alloc (.cells #[.int .i64 size, .slice a l.length cap] 24)) w2) := box2 HB1.out b2
  clear b2 c1 c2
  have c1 : w2.cell? ⟨w.heap.size, 0, none⟩ = some (.int .i64 size) := boxc HB2.out 0
  have c2 : w2.cell? ⟨w.heap.size, 1, none⟩ = some (.slice a l.length cap) := boxc HB2.out 1
  go_wp2_with fail
  refine (H3.out _ (of_alloc HB2.out)).mono ?_
  rintro e w3 ⟨rfl, b3⟩
  have HB3 : Hid (Below (w.heap.size + 1) (w.alloc (.cells #[.int .i64 size, .slice a l.length cap] 24)) w3) := box2 HB2.out b3
  clear b3 c1 c2
  have c1 : w3.cell? ⟨w.heap.size, 0, none⟩ = some (.int .i64 size) := boxc HB3.out 0
  have c2 : w3.cell? ⟨w.heap.size, 1, none⟩ = some (.slice a l.length cap) := boxc HB3.out 1
  go_wp2_with fail
  refine (H4.out _ (of_alloc HB3.out)).mono ?_
  rintro e w4 ⟨rfl, b4⟩
  have HB4 : Hid (Below (w.heap.size + 1) (w.alloc (.cells #[.int .i64 size, .slice a l.length cap] 24)) w4) := box2 HB3.out b4
  clear b4 c1 c2
  have c1 : w4.cell? ⟨w.heap.size, 0, none⟩ = some (.int .i64 size) := boxc HB4.out 0
  have c2 : w4.cell? ⟨w.heap.size, 1, none⟩ = some (.slice a l.length cap) := boxc HB4.out 1
  go_wp2_with fail
  refine (between_no _ _ _ _ f1).mono ?_
  rintro e w' ⟨rfl, rfl⟩
  go_wp2_with fail
  refine (between_yes _ _ _ _ t1 t2).mono ?_
  rintro e w' ⟨rfl, rfl⟩
  go_wp2_with fail
  have p0 := BelowOf.cell c1
  have p1 := BelowOf.cell c2
  refine wp_region_quiet_below (by kernel_rfl) (by kernel_rfl) ?_
  repeat (first | go_big_quiet_step (((rename_i p; refine Calls.below_of p (HI.out _ _ (bel_of (of_alloc HB4.out) p.hb))))) | quiet_step (((rename_i p; refine Calls.below_of p (HI.out _ _ (bel_of (of_alloc HB4.out) p.hb))))))
  refine wpQuiet_nil ?_
  rintro w6 ⟨p, hp⟩
  have b6 := p.hb
  rw [← hp] at b6
  clear hp p
  clear p0 p1
  have HB6 : Hid (Below (w.heap.size + 1) (w.alloc (.cells #[.int .i64 size, .slice a l.length cap] 24)) w6) := box2 HB4.out b6
  clear b6 c1 c2
  have c1 : w6.cell? ⟨w.heap.size, 0, none⟩ = some (.int .i64 size) := boxc HB6.out 0
  have c2 : w6.cell? ⟨w.heap.size, 1, none⟩ = some (.slice a l.length cap) := boxc HB6.out 1
  have HI1 : Hid (∀ W, Below w.heap.size w W → Calls Try.prog 17 #[.slice a l.length cap, .int .i64 (n % size)] W fun e w' => e = .returned (.bool true) ∧ Below W.heap.size W w') := fun W h => by
    have := HI.out (n % size) W h; rwa [HN1.out] at this
  have HC1 : Hid (∀ W, Below w.heap.size w W → Calls Try.prog 31 #[.agg #[.int .i64 size, .slice a l.length cap], .int .i64 n] W fun e w' => e = .returned (.int .i64 (cb size l t)) ∧ Below W.heap.size W w') := fun W h => by
    have := HC.out n W h (by omega) (by omega); rwa [HN2.out] at this
  go_wp2_with fail
  have p0 := BelowOf.cell c1
  have p1 := BelowOf.cell c2
  refine wp_region_quiet_below (by kernel_rfl) (by kernel_rfl) ?_
  repeat (first | go_big_quiet_step ((first | (go_at_call 17; rename_i p; refine Calls.below_of p (HI1.out _ (bel_of (of_alloc HB6.out) p.hb))) | (go_at_call_of 31 (Value.int .i64 n); rename_i p; refine Calls.below_of p (HC1.out _ (bel_of (of_alloc HB6.out) p.hb))) | (go_at_call_of 31 (Value.int .i64 t); rename_i p; refine Calls.below_of p (HC.out t _ (bel_of (of_alloc HB6.out) p.hb) (by omega) (by omega))))) | quiet_step ((first | (go_at_call 17; rename_i p; refine Calls.below_of p (HI1.out _ (bel_of (of_alloc HB6.out) p.hb))) | (go_at_call_of 31 (Value.int .i64 n); rename_i p; refine Calls.below_of p (HC1.out _ (bel_of (of_alloc HB6.out) p.hb))) | (go_at_call_of 31 (Value.int .i64 t); rename_i p; refine Calls.below_of p (HC.out t _ (bel_of (of_alloc HB6.out) p.hb) (by omega) (by omega))))))
  refine wpQuiet_nil ?_
  rintro w7 ⟨p, hp⟩
  have b7 := p.hb
  rw [← hp] at b7
  clear hp p
  clear p0 p1
  have HB7 : Hid (Below (w.heap.size + 1) (w.alloc (.cells #[.int .i64 size, .slice a l.length cap] 24)) w7) := box2 HB6.out b7
  clear b7 c1 c2
  have c1 : w7.cell? ⟨w.heap.size, 0, none⟩ = some (.int .i64 size) := boxc HB7.out 0
  have c2 : w7.cell? ⟨w.heap.size, 1, none⟩ = some (.slice a l.length cap) := boxc HB7.out 1
  go_wp2_with fail
  go_ret
  exact ⟨by first | rfl | simp, of_alloc HB7.out⟩
set_option maxRecDepth 10000 in
set_option maxHeartbeats 800000 in
theorem tells_CBTB (size t f u : Int) (a : Option Addr) (cap : Nat) (l : List Sp) (w : World) (hr : Sps w a l) (hl : l.length ≤ maxLen) (hk : chk size l = 0) (f1 : 0 ≤ f) (f2 : f ≤ u) (f3 : 1099511627776 < u) (t1 : ¬ (0 ≤ t ∧ t ≤ 1099511627776)) :
    Calls Try.prog 5 #[.agg #[.int .i64 size, .slice a l.length cap], .int .i64 t, .int .i64 f, .int .i64 u] w fun e w' => e = .returned (.bool true) ∧ Below w.heap.size w w' := by
  obtain ⟨s1, s2, s3, s4⟩ := chk_zero hk
  have H4 : Hid (∀ W, Below w.heap.size w W → Calls Try.prog 19 #[.agg #[.int .i64 size, .slice a l.length cap]] W fun e w' => e = .returned (.int .i64 0) ∧ Below W.heap.size W w') := fun W h => by
    have := right_any size a cap l W (hr.below h (Nat.le_refl _)); rwa [hk] at this
  have HI : Hid (∀ m W, Below w.heap.size w W → Calls Try.prog 17 #[.slice a l.length cap, .int .i64 m] W fun e w' => e = .returned (.bool (mem l m)) ∧ Below W.heap.size W w') := fun m W h => inSpans_any a cap l m W (hr.below h (Nat.le_refl _)) hl
  have HC : Hid (∀ m W, Below w.heap.size w W → 0 ≤ m → m ≤ 2199023255552 → Calls Try.prog 31 #[.agg #[.int .i64 size, .slice a l.length cap], .int .i64 m] W fun e w' => e = .returned (.int .i64 (cb size l m)) ∧ Below W.heap.size W w') := fun m W h h1 h2 => countOf_any size m a cap l W (hr.below h (Nat.le_refl _)) hk h1 h2
  have H3 : Hid _ := fun W (h : Below w.heap.size w W) => count_arg size f u a cap l W (hr.below h (Nat.le_refl _)) hk (by omega)
  have H1 : Hid _ := fun W (h : Below w.heap.size w W) => has_arg size t a cap l W (hr.below h (Nat.le_refl _)) hk t1
  have H2 : Hid _ := fun W (h : Below w.heap.size w W) => next_arg size t a cap l W (hr.below h (Nat.le_refl _)) hk t1
  clear hr hk hl s4
  go_enter Try.func5, Try.ntmps5
  go_wp2_with fail
  refine (H1.out _ (by go_grown)).mono ?_
  rintro e w1 ⟨rfl, b1⟩
  have HB1 : Hid (Below (w.heap.size + 1) (w.alloc (.cells #[.int .i64 size, .slice a l.length cap] 24)) w1) := box1 b1
  clear b1
  have c1 : w1.cell? ⟨w.heap.size, 0, none⟩ = some (.int .i64 size) := boxc HB1.out 0
  have c2 : w1.cell? ⟨w.heap.size, 1, none⟩ = some (.slice a l.length cap) := boxc HB1.out 1
  go_wp2_with fail
  refine (H2.out _ (of_alloc HB1.out)).mono ?_
  rintro e w2 ⟨rfl, b2⟩
  have HB2 : Hid (Below (w.heap.size + 1) (w.alloc (.cells #[.int .i64 size, .slice a l.length cap] 24)) w2) := box2 HB1.out b2
  clear b2 c1 c2
  have c1 : w2.cell? ⟨w.heap.size, 0, none⟩ = some (.int .i64 size) := boxc HB2.out 0
  have c2 : w2.cell? ⟨w.heap.size, 1, none⟩ = some (.slice a l.length cap) := boxc HB2.out 1
  go_wp2_with fail
  refine (H3.out _ (of_alloc HB2.out)).mono ?_
  rintro e w3 ⟨rfl, b3⟩
  have HB3 : Hid (Below (w.heap.size + 1) (w.alloc (.cells #[.int .i64 size, .slice a l.length cap] 24)) w3) := box2 HB2.out b3
  clear b3 c1 c2
  have c1 : w3.cell? ⟨w.heap.size, 0, none⟩ = some (.int .i64 size) := boxc HB3.out 0
  have c2 : w3.cell? ⟨w.heap.size, 1, none⟩ = some (.slice a l.length cap) := boxc HB3.out 1
  go_wp2_with fail
  refine (H4.out _ (of_alloc HB3.out)).mono ?_
  rintro e w4 ⟨rfl, b4⟩
  have HB4 : Hid (Below (w.heap.size + 1) (w.alloc (.cells #[.int .i64 size, .slice a l.length cap] 24)) w4) := box2 HB3.out b4
  clear b4 c1 c2
  have c1 : w4.cell? ⟨w.heap.size, 0, none⟩ = some (.int .i64 size) := boxc HB4.out 0
  have c2 : w4.cell? ⟨w.heap.size, 1, none⟩ = some (.slice a l.length cap) := boxc HB4.out 1
  go_wp2_with fail
  refine (between_yes _ _ _ _ f1 f2).mono ?_
  rintro e w' ⟨rfl, rfl⟩
  go_wp2_with fail
  refine (between_no _ _ _ _ t1).mono ?_
  rintro e w' ⟨rfl, rfl⟩
  go_wp2_with fail
  go_ret
  exact ⟨by first | rfl | simp, of_alloc HB4.out⟩
set_option maxRecDepth 10000 in
set_option maxHeartbeats 800000 in
theorem tells_CBTE (size t f u : Int) (a : Option Addr) (cap : Nat) (l : List Sp) (w : World) (hr : Sps w a l) (hl : l.length ≤ maxLen) (hk : chk size l = 0) (f1 : 0 ≤ f) (f2 : f ≤ u) (f3 : 1099511627776 < u) (t1 : 0 ≤ t) (t2 : t ≤ 1099511627776) (he : l = []) :
    Calls Try.prog 5 #[.agg #[.int .i64 size, .slice a l.length cap], .int .i64 t, .int .i64 f, .int .i64 u] w fun e w' => e = .returned (.bool true) ∧ Below w.heap.size w w' := by
  obtain ⟨s1, s2, s3, s4⟩ := chk_zero hk
  have H4 : Hid (∀ W, Below w.heap.size w W → Calls Try.prog 19 #[.agg #[.int .i64 size, .slice a l.length cap]] W fun e w' => e = .returned (.int .i64 0) ∧ Below W.heap.size W w') := fun W h => by
    have := right_any size a cap l W (hr.below h (Nat.le_refl _)); rwa [hk] at this
  have HI : Hid (∀ m W, Below w.heap.size w W → Calls Try.prog 17 #[.slice a l.length cap, .int .i64 m] W fun e w' => e = .returned (.bool (mem l m)) ∧ Below W.heap.size W w') := fun m W h => inSpans_any a cap l m W (hr.below h (Nat.le_refl _)) hl
  have HC : Hid (∀ m W, Below w.heap.size w W → 0 ≤ m → m ≤ 2199023255552 → Calls Try.prog 31 #[.agg #[.int .i64 size, .slice a l.length cap], .int .i64 m] W fun e w' => e = .returned (.int .i64 (cb size l m)) ∧ Below W.heap.size W w') := fun m W h h1 h2 => countOf_any size m a cap l W (hr.below h (Nat.le_refl _)) hk h1 h2
  have H3 : Hid _ := fun W (h : Below w.heap.size w W) => count_arg size f u a cap l W (hr.below h (Nat.le_refl _)) hk (by omega)
  have H1 : Hid _ := fun W (h : Below w.heap.size w W) => has_ok size t a cap l W (hr.below h (Nat.le_refl _)) hk t1 t2
  have m1 := Int.emod_nonneg t (show size ≠ 0 by omega)
  have m2 := Int.emod_lt_of_pos t (show 0 < size by omega)
  have H2 : Hid (∀ W, Below w.heap.size w W → Calls Try.prog 29 #[.agg #[.int .i64 size, .slice a l.length cap], .int .i64 t] W fun e w' => e = .returned (.tuple #[.int .i64 0, .int .i64 7]) ∧ Below W.heap.size W w') := fun W h => by
    subst he; exact next_none size t a cap W hk t1 t2
  have hnz : ((l.length : Int) == 0) = true := by rw [he]; rfl
  clear he
  clear hr hk hl s4
  go_enter Try.func5, Try.ntmps5
  go_wp2_with fail
  refine (H1.out _ (by go_grown)).mono ?_
  rintro e w1 ⟨rfl, b1⟩
  have HB1 : Hid (Below (w.heap.size + 1) (w.alloc (.cells #[.int .i64 size, .slice a l.length cap] 24)) w1) := box1 b1
  clear b1
  have c1 : w1.cell? ⟨w.heap.size, 0, none⟩ = some (.int .i64 size) := boxc HB1.out 0
  have c2 : w1.cell? ⟨w.heap.size, 1, none⟩ = some (.slice a l.length cap) := boxc HB1.out 1
  go_wp2_with fail
  refine (H2.out _ (of_alloc HB1.out)).mono ?_
  rintro e w2 ⟨rfl, b2⟩
  have HB2 : Hid (Below (w.heap.size + 1) (w.alloc (.cells #[.int .i64 size, .slice a l.length cap] 24)) w2) := box2 HB1.out b2
  clear b2 c1 c2
  have c1 : w2.cell? ⟨w.heap.size, 0, none⟩ = some (.int .i64 size) := boxc HB2.out 0
  have c2 : w2.cell? ⟨w.heap.size, 1, none⟩ = some (.slice a l.length cap) := boxc HB2.out 1
  go_wp2_with fail
  refine (H3.out _ (of_alloc HB2.out)).mono ?_
  rintro e w3 ⟨rfl, b3⟩
  have HB3 : Hid (Below (w.heap.size + 1) (w.alloc (.cells #[.int .i64 size, .slice a l.length cap] 24)) w3) := box2 HB2.out b3
  clear b3 c1 c2
  have c1 : w3.cell? ⟨w.heap.size, 0, none⟩ = some (.int .i64 size) := boxc HB3.out 0
  have c2 : w3.cell? ⟨w.heap.size, 1, none⟩ = some (.slice a l.length cap) := boxc HB3.out 1
  go_wp2_with fail
  refine (H4.out _ (of_alloc HB3.out)).mono ?_
  rintro e w4 ⟨rfl, b4⟩
  have HB4 : Hid (Below (w.heap.size + 1) (w.alloc (.cells #[.int .i64 size, .slice a l.length cap] 24)) w4) := box2 HB3.out b4
  clear b4 c1 c2
  have c1 : w4.cell? ⟨w.heap.size, 0, none⟩ = some (.int .i64 size) := boxc HB4.out 0
  have c2 : w4.cell? ⟨w.heap.size, 1, none⟩ = some (.slice a l.length cap) := boxc HB4.out 1
  go_wp2_with fail
  refine (between_yes _ _ _ _ f1 f2).mono ?_
  rintro e w' ⟨rfl, rfl⟩
  go_wp2_with fail
  refine (between_yes _ _ _ _ t1 t2).mono ?_
  rintro e w' ⟨rfl, rfl⟩
  go_wp2_with fail
  have p0 := BelowOf.cell c1
  have p1 := BelowOf.cell c2
  refine wp_region_quiet_below (by kernel_rfl) (by kernel_rfl) ?_
  repeat (first | go_big_quiet_step (((rename_i p; refine Calls.below_of p (HI.out _ _ (bel_of (of_alloc HB4.out) p.hb))))) | quiet_step (((rename_i p; refine Calls.below_of p (HI.out _ _ (bel_of (of_alloc HB4.out) p.hb))))))
  refine wpQuiet_nil ?_
  rintro w6 ⟨p, hp⟩
  have b6 := p.hb
  rw [← hp] at b6
  clear hp p
  clear p0 p1
  have HB6 : Hid (Below (w.heap.size + 1) (w.alloc (.cells #[.int .i64 size, .slice a l.length cap] 24)) w6) := box2 HB4.out b6
  clear b6 c1 c2
  have c1 : w6.cell? ⟨w.heap.size, 0, none⟩ = some (.int .i64 size) := boxc HB6.out 0
  have c2 : w6.cell? ⟨w.heap.size, 1, none⟩ = some (.slice a l.length cap) := boxc HB6.out 1
  go_wp2_with fail
  go_ret
  exact ⟨by first | rfl | simp, of_alloc HB6.out⟩
set_option maxRecDepth 10000 in
set_option maxHeartbeats 800000 in
theorem tells_CBTN (size t f u : Int) (a : Option Addr) (cap : Nat) (l : List Sp) (w : World) (hr : Sps w a l) (hl : l.length ≤ maxLen) (hk : chk size l = 0) (f1 : 0 ≤ f) (f2 : f ≤ u) (f3 : 1099511627776 < u) (t1 : 0 ≤ t) (t2 : t ≤ 1099511627776) (hne : l ≠ []) :
    Calls Try.prog 5 #[.agg #[.int .i64 size, .slice a l.length cap], .int .i64 t, .int .i64 f, .int .i64 u] w fun e w' => e = .returned (.bool true) ∧ Below w.heap.size w w' := by
  obtain ⟨s1, s2, s3, s4⟩ := chk_zero hk
  have H4 : Hid (∀ W, Below w.heap.size w W → Calls Try.prog 19 #[.agg #[.int .i64 size, .slice a l.length cap]] W fun e w' => e = .returned (.int .i64 0) ∧ Below W.heap.size W w') := fun W h => by
    have := right_any size a cap l W (hr.below h (Nat.le_refl _)); rwa [hk] at this
  have HI : Hid (∀ m W, Below w.heap.size w W → Calls Try.prog 17 #[.slice a l.length cap, .int .i64 m] W fun e w' => e = .returned (.bool (mem l m)) ∧ Below W.heap.size W w') := fun m W h => inSpans_any a cap l m W (hr.below h (Nat.le_refl _)) hl
  have HC : Hid (∀ m W, Below w.heap.size w W → 0 ≤ m → m ≤ 2199023255552 → Calls Try.prog 31 #[.agg #[.int .i64 size, .slice a l.length cap], .int .i64 m] W fun e w' => e = .returned (.int .i64 (cb size l m)) ∧ Below W.heap.size W w') := fun m W h h1 h2 => countOf_any size m a cap l W (hr.below h (Nat.le_refl _)) hk h1 h2
  have H3 : Hid _ := fun W (h : Below w.heap.size w W) => count_arg size f u a cap l W (hr.below h (Nat.le_refl _)) hk (by omega)
  have H1 : Hid _ := fun W (h : Below w.heap.size w W) => has_ok size t a cap l W (hr.below h (Nat.le_refl _)) hk t1 t2
  have m1 := Int.emod_nonneg t (show size ≠ 0 by omega)
  have m2 := Int.emod_lt_of_pos t (show 0 < size by omega)
  have H2 : Hid _ := fun W (h : Below w.heap.size w W) => next_ok size t a cap l W (hr.below h (Nat.le_refl _)) hk t1 t2 hne
  have hnz : ((l.length : Int) == 0) = false := by rw [beq_eq_false_iff_ne]; have := List.length_pos_iff.2 hne; omega
  have HS : Hid (good size (-1) l = true) := s4
  clear hr hk hl s4 hne
  go_enter Try.func5, Try.ntmps5
  go_wp2_with fail
  refine (H1.out _ (by go_grown)).mono ?_
  rintro e w1 ⟨rfl, b1⟩
  have HB1 : Hid (Below (w.heap.size + 1) (w.alloc (.cells #[.int .i64 size, .slice a l.length cap] 24)) w1) := box1 b1
  clear b1
  have c1 : w1.cell? ⟨w.heap.size, 0, none⟩ = some (.int .i64 size) := boxc HB1.out 0
  have c2 : w1.cell? ⟨w.heap.size, 1, none⟩ = some (.slice a l.length cap) := boxc HB1.out 1
  go_wp2_with fail
  refine (H2.out _ (of_alloc HB1.out)).mono ?_
  rintro e w2 ⟨n, rfl, hn, b2⟩
  have n1 := hn.1
  have n2 := hn.2.1
  have n3 := Int.emod_nonneg n (show size ≠ 0 by omega)
  have n4 := Int.emod_lt_of_pos n (show 0 < size by omega)
  have HN1 : Hid (mem l (n % size) = true) := hn.2.2.1
  have HN2 : Hid (cb size l n = cb size l t) := cb_next s1 HS.out t1 hn
  clear hn
  have HB2 : Hid (Below (w.heap.size + 1) (w.alloc (.cells #[.int .i64 size, .slice a l.length cap] 24)) w2) := box2 HB1.out b2
  clear b2 c1 c2
  have c1 : w2.cell? ⟨w.heap.size, 0, none⟩ = some (.int .i64 size) := boxc HB2.out 0
  have c2 : w2.cell? ⟨w.heap.size, 1, none⟩ = some (.slice a l.length cap) := boxc HB2.out 1
  go_wp2_with fail
  refine (H3.out _ (of_alloc HB2.out)).mono ?_
  rintro e w3 ⟨rfl, b3⟩
  have HB3 : Hid (Below (w.heap.size + 1) (w.alloc (.cells #[.int .i64 size, .slice a l.length cap] 24)) w3) := box2 HB2.out b3
  clear b3 c1 c2
  have c1 : w3.cell? ⟨w.heap.size, 0, none⟩ = some (.int .i64 size) := boxc HB3.out 0
  have c2 : w3.cell? ⟨w.heap.size, 1, none⟩ = some (.slice a l.length cap) := boxc HB3.out 1
  go_wp2_with fail
  refine (H4.out _ (of_alloc HB3.out)).mono ?_
  rintro e w4 ⟨rfl, b4⟩
  have HB4 : Hid (Below (w.heap.size + 1) (w.alloc (.cells #[.int .i64 size, .slice a l.length cap] 24)) w4) := box2 HB3.out b4
  clear b4 c1 c2
  have c1 : w4.cell? ⟨w.heap.size, 0, none⟩ = some (.int .i64 size) := boxc HB4.out 0
  have c2 : w4.cell? ⟨w.heap.size, 1, none⟩ = some (.slice a l.length cap) := boxc HB4.out 1
  go_wp2_with fail
  refine (between_yes _ _ _ _ f1 f2).mono ?_
  rintro e w' ⟨rfl, rfl⟩
  go_wp2_with fail
  refine (between_yes _ _ _ _ t1 t2).mono ?_
  rintro e w' ⟨rfl, rfl⟩
  go_wp2_with fail
  have p0 := BelowOf.cell c1
  have p1 := BelowOf.cell c2
  refine wp_region_quiet_below (by kernel_rfl) (by kernel_rfl) ?_
  repeat (first | go_big_quiet_step (((rename_i p; refine Calls.below_of p (HI.out _ _ (bel_of (of_alloc HB4.out) p.hb))))) | quiet_step (((rename_i p; refine Calls.below_of p (HI.out _ _ (bel_of (of_alloc HB4.out) p.hb))))))
  refine wpQuiet_nil ?_
  rintro w6 ⟨p, hp⟩
  have b6 := p.hb
  rw [← hp] at b6
  clear hp p
  clear p0 p1
  have HB6 : Hid (Below (w.heap.size + 1) (w.alloc (.cells #[.int .i64 size, .slice a l.length cap] 24)) w6) := box2 HB4.out b6
  clear b6 c1 c2
  have c1 : w6.cell? ⟨w.heap.size, 0, none⟩ = some (.int .i64 size) := boxc HB6.out 0
  have c2 : w6.cell? ⟨w.heap.size, 1, none⟩ = some (.slice a l.length cap) := boxc HB6.out 1
  have HI1 : Hid (∀ W, Below w.heap.size w W → Calls Try.prog 17 #[.slice a l.length cap, .int .i64 (n % size)] W fun e w' => e = .returned (.bool true) ∧ Below W.heap.size W w') := fun W h => by
    have := HI.out (n % size) W h; rwa [HN1.out] at this
  have HC1 : Hid (∀ W, Below w.heap.size w W → Calls Try.prog 31 #[.agg #[.int .i64 size, .slice a l.length cap], .int .i64 n] W fun e w' => e = .returned (.int .i64 (cb size l t)) ∧ Below W.heap.size W w') := fun W h => by
    have := HC.out n W h (by omega) (by omega); rwa [HN2.out] at this
  go_wp2_with fail
  have p0 := BelowOf.cell c1
  have p1 := BelowOf.cell c2
  refine wp_region_quiet_below (by kernel_rfl) (by kernel_rfl) ?_
  repeat (first | go_big_quiet_step ((first | (go_at_call 17; rename_i p; refine Calls.below_of p (HI1.out _ (bel_of (of_alloc HB6.out) p.hb))) | (go_at_call_of 31 (Value.int .i64 n); rename_i p; refine Calls.below_of p (HC1.out _ (bel_of (of_alloc HB6.out) p.hb))) | (go_at_call_of 31 (Value.int .i64 t); rename_i p; refine Calls.below_of p (HC.out t _ (bel_of (of_alloc HB6.out) p.hb) (by omega) (by omega))))) | quiet_step ((first | (go_at_call 17; rename_i p; refine Calls.below_of p (HI1.out _ (bel_of (of_alloc HB6.out) p.hb))) | (go_at_call_of 31 (Value.int .i64 n); rename_i p; refine Calls.below_of p (HC1.out _ (bel_of (of_alloc HB6.out) p.hb))) | (go_at_call_of 31 (Value.int .i64 t); rename_i p; refine Calls.below_of p (HC.out t _ (bel_of (of_alloc HB6.out) p.hb) (by omega) (by omega))))))
  refine wpQuiet_nil ?_
  rintro w7 ⟨p, hp⟩
  have b7 := p.hb
  rw [← hp] at b7
  clear hp p
  clear p0 p1
  have HB7 : Hid (Below (w.heap.size + 1) (w.alloc (.cells #[.int .i64 size, .slice a l.length cap] 24)) w7) := box2 HB6.out b7
  clear b7 c1 c2
  have c1 : w7.cell? ⟨w.heap.size, 0, none⟩ = some (.int .i64 size) := boxc HB7.out 0
  have c2 : w7.cell? ⟨w.heap.size, 1, none⟩ = some (.slice a l.length cap) := boxc HB7.out 1
  go_wp2_with fail
  go_ret
  exact ⟨by first | rfl | simp, of_alloc HB7.out⟩
theorem spanTells_walk (size : Int) (a : Option Addr) (len cap : Nat) (l : List Sp) (t f u : Int) (w : World) (hs : wf64 size) (h : IsSps w a len cap l) (ht : wf64 t) (hf : wf64 f) (hu : wf64 u) :
    Calls Try.prog 5 #[.agg #[.int .i64 size, .slice a len cap], .int .i64 t, .int .i64 f, .int .i64 u] w fun e w' => e = .returned (.bool true) ∧ Below w.heap.size w w' := by
  obtain ⟨rfl, h1, h2, hr, _, _⟩ := h
  have hl : l.length ≤ maxLen := Nat.le_trans h1 h2
  by_cases hk : chk size l = 0
  · have C : (0 ≤ f ∧ f ≤ u ∧ u ≤ 1099511627776) ∨ ¬ (0 ≤ f ∧ f ≤ u) ∨ (0 ≤ f ∧ f ≤ u ∧ 1099511627776 < u) := by omega
    by_cases t1 : 0 ≤ t ∧ t ≤ 1099511627776
    · by_cases he : l = []
      · rcases C with ⟨f1, f2, f3⟩ | f1 | ⟨f1, f2, f3⟩
        · exact tells_COTE size t f u a cap l w hr hl hk f1 f2 f3 t1.1 t1.2 he
        · exact tells_CATE size t f u a cap l w hr hl hk f1 t1.1 t1.2 he
        · exact tells_CBTE size t f u a cap l w hr hl hk f1 f2 f3 t1.1 t1.2 he
      · rcases C with ⟨f1, f2, f3⟩ | f1 | ⟨f1, f2, f3⟩
        · exact tells_COTN size t f u a cap l w hr hl hk f1 f2 f3 t1.1 t1.2 he
        · exact tells_CATN size t f u a cap l w hr hl hk f1 t1.1 t1.2 he
        · exact tells_CBTN size t f u a cap l w hr hl hk f1 f2 f3 t1.1 t1.2 he
    · rcases C with ⟨f1, f2, f3⟩ | f1 | ⟨f1, f2, f3⟩
      · exact tells_COTB size t f u a cap l w hr hl hk f1 f2 f3 t1
      · exact tells_CATB size t f u a cap l w hr hl hk f1 t1
      · exact tells_CBTB size t f u a cap l w hr hl hk f1 f2 f3 t1
  · exact tells_err size t f u a cap l w hr hk
end SpanC
end Go.Proofs.Ytlhkjdghefbnfaa
