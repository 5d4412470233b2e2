/- spanLives: two spans that touch. -/
import Derived.Test.YtepnlfnnancnfaaSpanF
import Derived.Test.YtepnlfnnancnfaaSpanE
set_option linter.unusedVariables false
namespace Go.Proofs.Ytepnlfnnancnfaa
open Go.RowKit
open SpanM
namespace SpanC
theorem of_4624 (b : Nat) (w : World) (h1 : w.cell? ⟨b, 0, none⟩ = some (.int .i64 4)) (h2 : w.cell? ⟨b, 1, none⟩ = some (.int .i64 6)) (h3 : w.cell? ⟨b, 2, none⟩ = some (.int .i64 2)) (h4 : w.cell? ⟨b, 3, none⟩ = some (.int .i64 4)) :
    Calls Try.prog 31 #[.int .i64 10, .slice (some ⟨b, 0, none⟩) 2 2] w fun e w' => (∃ a c, e = .returned (.tuple #[.agg #[.int .i64 10, .slice a 1 c], .int .i64 0]) ∧ Sps w' a [(2, 6)]) ∧ Below w.heap.size w w' := by
  have hs : Sps w (some ⟨b, 0, none⟩) [(4, 6), (2, 4)] := by
    refine .inr ⟨b, 0, rfl, fun i hi => ?_⟩
    match i, hi with
    | 0, _ => exact ⟨h1, h2⟩
    | 1, _ => exact ⟨h3, h4⟩
  have := of_list 10 (some ⟨b, 0, none⟩) 2 [(4, 6), (2, 4)] w (by omega) (by omega) (by simp) hs
  refine this.mono ?_
  rintro e w' ⟨h | h, hb⟩
  · obtain ⟨_, v, r, rfl, ho, hg, hm, _⟩ := h
    have hr : r = [(2, 6)] := by
      refine unique hg (by decide) fun t => ?_
      rw [hm t, Bool.eq_iff_iff]
      simp only [mem_cons, mem_nil, Bool.or_false, Bool.or_eq_true, decide_eq_true_eq]
      omega
    subst hr
    obtain ⟨a, c, rfl, hs, _⟩ := ho.sps
    exact ⟨⟨a, c, rfl, hs⟩, hb⟩
  · exact absurd h.1 (by decide)
theorem chk26 : chk 10 [(2, 6)] = 0 := by decide
theorem next_16 {n : Int} (h : NextP 10 [(2, 6)] 16 n) : n = 22 := by
  refine h.unique ⟨by omega, by omega, by decide, fun u h1 h2 => ?_⟩
  have : u = 16 ∨ u = 17 ∨ u = 18 ∨ u = 19 ∨ u = 20 ∨ u = 21 := by omega
  rcases this with rfl | rfl | rfl | rfl | rfl | rfl <;> decide
set_option maxHeartbeats 800000 in
theorem lives (w : World) :
    Calls Try.prog 34 #[] w fun e w' => e = .returned (.bool true) ∧ Below w.heap.size w w' := by
  go_enter Try.func34, Try.ntmps34
  go_wp2_with fail
  refine (of_4624 w.heap.size _ (World.cell?_alloc_at _ _ _ _ rfl) (World.cell?_alloc_at _ _ _ _ rfl) (World.cell?_alloc_at _ _ _ _ rfl) (World.cell?_alloc_at _ _ _ _ rfl)).mono ?_
  rintro e w1 ⟨⟨a, c, rfl, hs⟩, b1⟩
  have HB1 := hid (of_alloc (box1 b1))
  have HS := hid hs
  clear b1 hs
  have h2 := hid (fun W (h : Below w1.heap.size w1 W) => has_ok 10 13 a c [(2, 6)] W (HS.out.below h (Nat.le_refl _)) chk26 (by omega) (by omega))
  have h3 := hid (fun W (h : Below w1.heap.size w1 W) => count_ok 10 0 25 a c [(2, 6)] W (HS.out.below h (Nat.le_refl _)) chk26 (by omega) (by omega) (by omega))
  have h4 := hid (fun W (h : Below w1.heap.size w1 W) => next_ok 10 16 a c [(2, 6)] W (HS.out.below h (Nat.le_refl _)) chk26 (by omega) (by omega) (by simp))
  have e2 : mem [(2, 6)] (13 % 10) = true := by decide
  have e3 : cb 10 [(2, 6)] 25 - cb 10 [(2, 6)] 0 = 11 := by decide
  rw [e2] at h2
  rw [e3] at h3
  clear e2 e3
  go_wp2_with fail
  refine (h2.out _ (by go_grown)).mono ?_
  rintro e w2 ⟨rfl, b2⟩
  have HC2 : Hid (Below (w1.heap.size + 1) (w1.alloc (.cells #[.int .i64 10, .slice a 1 c] 24)) w2) := box1 b2
  clear b2
  have c1 : w2.cell? ⟨w1.heap.size, 0, none⟩ = some (.int .i64 10) := boxc HC2.out 0
  have c2 : w2.cell? ⟨w1.heap.size, 1, none⟩ = some (.slice a 1 c) := boxc HC2.out 1
  go_wp2_with fail
  refine (h3.out _ (of_alloc HC2.out)).mono ?_
  rintro e w3 ⟨rfl, b3⟩
  have HC3 : Hid (Below (w1.heap.size + 1) (w1.alloc (.cells #[.int .i64 10, .slice a 1 c] 24)) w3) := box2 HC2.out b3
  clear b3 c1 c2
  have c1 : w3.cell? ⟨w1.heap.size, 0, none⟩ = some (.int .i64 10) := boxc HC3.out 0
  have c2 : w3.cell? ⟨w1.heap.size, 1, none⟩ = some (.slice a 1 c) := boxc HC3.out 1
  go_wp2_with fail
  refine (h4.out _ (of_alloc HC3.out)).mono ?_
  rintro e w4 ⟨n, rfl, hn, b4⟩
  obtain rfl := next_16 hn
  clear hn
  have HC4 : Hid (Below (w1.heap.size + 1) (w1.alloc (.cells #[.int .i64 10, .slice a 1 c] 24)) w4) := box2 HC3.out b4
  clear b4 c1 c2
  have c1 : w4.cell? ⟨w1.heap.size, 0, none⟩ = some (.int .i64 10) := boxc HC4.out 0
  have c2 : w4.cell? ⟨w1.heap.size, 1, none⟩ = some (.slice a 1 c) := boxc HC4.out 1
  go_wp2_with fail
  have hq : Sps (w4.alloc (.cells #[.int .i64 2, .int .i64 6] 45)) (some ⟨w4.heap.size, 0, none⟩) [(2, 6)] := by
    refine .inr ⟨_, 0, rfl, fun i hi => ?_⟩
    match i, hi with
    | 0, _ => exact ⟨World.cell?_alloc_at _ _ _ _ rfl, World.cell?_alloc_at _ _ _ _ rfl⟩
  refine (equal_below a (some ⟨w4.heap.size, 0, none⟩) c 1 [(2, 6)] [(2, 6)] _ ((HS.out.below (of_alloc HC4.out) (Nat.le_refl _)).below (Below.alloc (Below.refl _ _) (Nat.le_refl _) _) (Nat.le_refl _)) hq (by simp [maxLen]) (by simp [maxLen])).mono ?_
  rintro e w5 ⟨rfl, b5⟩
  have HB5 := hid (bel_of (bel_of HB1.out (of_alloc HC4.out)) (of_alloc (box1 b5)))
  clear b5 hq
  go_wp2_with fail
  go_ret
  exact ⟨by first | rfl | simp, HB5.out⟩
end SpanC
end Go.Proofs.Ytepnlfnnancnfaa
