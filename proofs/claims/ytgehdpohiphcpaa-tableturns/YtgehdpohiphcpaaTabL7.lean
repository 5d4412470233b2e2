/- TableTurns. -/
import Derived.Test.YtgehdpohiphcpaaTabQ
import Derived.Test.YtgehdpohiphcpaaTabN2
import Derived.Test.YtgehdpohiphcpaaTabE
import Derived.Test.YtgehdpohiphcpaaTabO
import Derived.Test.YtgehdpohiphcpaaTabL0
set_option linter.unusedVariables false
namespace Go.Proofs.Ytgehdpohiphcpaa
open Go.RowKit
open SpanM SpanC TabM
namespace TabC
set_option maxHeartbeats 1600000 in
theorem tableTurns_bad (size : Int) (a : Option Addr) (cap : Nat) (l : List Win) (f t : Int) (w : World) (hr : Wns w a l) (hk : tchk size l ≠ 0) :
    Calls Try.prog 5 #[.agg #[.int .i64 size, .slice a l.length cap], .int .i64 f, .int .i64 t] w fun e w' => e = .returned (.bool true) ∧ Below w.heap.size w w' := by
  have HT := hid (fun W (h : Below w.heap.size w W) => turns_err size f t a cap l W (hr.below h (Nat.le_refl _)) hk)
  have HR := hid (fun W (h : Below w.heap.size w W) => right_any size a cap l W (hr.below h (Nat.le_refl _)))
  have h1 : (tchk size l == 0) = false := by simp [hk]
  have h2 : (tchk size l != 0) = true := by simp [hk]
  have h3 : (tchk size l == tchk size l) = true := by simp
  clear hr hk
  generalize tchk size l = c at *
  go_enter Try.func5, Try.ntmps5
  go_wp2_with fail
  refine (HT.out _ (by go_grown)).mono ?_
  rintro e w1 ⟨rfl, b1⟩
  have T1 : Hid (TabIn w w1 size (.slice a l.length cap)) := box1 b1
  clear b1
  have c0 : w1.cell? ⟨w.heap.size, 0, none⟩ = some (.int .i64 size) := boxc T1.out 0
  have c1 : w1.cell? ⟨w.heap.size, 1, none⟩ = some (.slice a l.length cap) := boxc T1.out 1
  go_wp2_with fail
  refine (HR.out _ (of_alloc T1.out)).mono ?_
  rintro e w2 ⟨rfl, b2⟩
  have T2 : Hid (TabIn w w2 size (.slice a l.length cap)) := box2 T1.out b2
  clear b2 c0 c1
  go_wp2_with fail
  go_ret
  exact ⟨by first | rfl | simp, of_alloc T2.out⟩
set_option maxHeartbeats 1600000 in
theorem tableTurns_arg (size : Int) (a : Option Addr) (cap : Nat) (l : List Win) (f t : Int) (w : World) (hr : Wns w a l) (hk : tchk size l = 0) (ht : ¬ (0 ≤ f ∧ f ≤ t ∧ t ≤ 1099511627776)) :
    Calls Try.prog 5 #[.agg #[.int .i64 size, .slice a l.length cap], .int .i64 f, .int .i64 t] w fun e w' => e = .returned (.bool true) ∧ Below w.heap.size w w' := by
  have HT := hid (fun W (h : Below w.heap.size w W) => turns_arg size f t a cap l W (hr.below h (Nat.le_refl _)) hk ht)
  have HR := hid (fun W (h : Below w.heap.size w W) => right_any size a cap l W (hr.below h (Nat.le_refl _)))
  rw [hk] at HR
  clear hr hk
  have C : ¬ (0 ≤ f ∧ f ≤ t) ∨ (0 ≤ f ∧ f ≤ t ∧ 1099511627776 < t) := by omega
  clear ht
  rcases C with h1 | ⟨h1, h2, h3⟩
  all_goals
    go_enter Try.func5, Try.ntmps5
    go_wp2_with fail
    refine (HT.out _ (by go_grown)).mono ?_
    rintro e w1 ⟨rfl, b1⟩
    have T1 : Hid (TabIn w w1 size (.slice a l.length cap)) := box1 b1
    clear b1
    have c0 : w1.cell? ⟨w.heap.size, 0, none⟩ = some (.int .i64 size) := boxc T1.out 0
    have c1 : w1.cell? ⟨w.heap.size, 1, none⟩ = some (.slice a l.length cap) := boxc T1.out 1
    go_wp2_with fail
    refine (HR.out _ (of_alloc T1.out)).mono ?_
    rintro e w2 ⟨rfl, b2⟩
    have T2 : Hid (TabIn w w2 size (.slice a l.length cap)) := box2 T1.out b2
    clear b2 c0 c1
    go_wp2_with (first | (go_at_call 14; refine (btw_yes _ _ _ _ (by omega) (by omega)).mono ?_; rintro e w' ⟨rfl, hw⟩; replace hw := hw.symm; subst hw) | (go_at_call 14; refine (btw_no _ _ _ _ (by omega)).mono ?_; rintro e w' ⟨rfl, hw⟩; replace hw := hw.symm; subst hw))
    go_ret
    exact ⟨by first | rfl | simp, of_alloc T2.out⟩
set_option maxHeartbeats 1600000 in
theorem tableTurns_ok (size : Int) (a : Option Addr) (cap : Nat) (l : List Win) (f t : Int) (w : World) (hr : Wns w a l) (hk : tchk size l = 0) (h1 : 0 ≤ f) (h2 : f ≤ t) (h3 : t ≤ 1099511627776) :
    Calls Try.prog 5 #[.agg #[.int .i64 size, .slice a l.length cap], .int .i64 f, .int .i64 t] w fun e w' => e = .returned (.bool true) ∧ Below w.heap.size w w' := by
  have HT := hid (fun W (h : Below w.heap.size w W) => turns_says size f t a cap l W (hr.below h (Nat.le_refl _)))
  have HTO := hid (fun W (h : Below w.heap.size w W) => turnsOf_any size f t a cap l W (hr.below h (Nat.le_refl _)) hk h1 h2 h3)
  have HR := hid (fun W (h : Below w.heap.size w W) => right_any size a cap l W (hr.below h (Nat.le_refl _)))
  rw [hk] at HR
  obtain ⟨s1, s2, _, _⟩ := tchk_zero hk
  have HK := hid hk
  clear hr hk
  go_enter Try.func5, Try.ntmps5
  go_wp2_with fail
  refine (HT.out _ (by go_grown)).mono ?_
  rintro e w1 ⟨⟨a1, n1, L, er, rfl, hw1, hm1, hP⟩, b1⟩
  have T1 : Hid (TabIn w w1 size (.slice a l.length cap)) := box1 b1
  have W1 := hid hw1
  clear b1 hw1
  have c0 : w1.cell? ⟨w.heap.size, 0, none⟩ = some (.int .i64 size) := boxc T1.out 0
  have c1 : w1.cell? ⟨w.heap.size, 1, none⟩ = some (.slice a l.length cap) := boxc T1.out 1
  go_wp2_with fail
  refine (HR.out _ (of_alloc T1.out)).mono ?_
  rintro e w2 ⟨rfl, b2⟩
  have T2 : Hid (TabIn w w2 size (.slice a l.length cap)) := box2 T1.out b2
  have W2 := hid (W1.out.below b2 (Nat.le_refl _))
  clear b2 c0 c1
  have c0 : w2.cell? ⟨w.heap.size, 0, none⟩ = some (.int .i64 size) := boxc T2.out 0
  have c1 : w2.cell? ⟨w.heap.size, 1, none⟩ = some (.slice a l.length cap) := boxc T2.out 1
  by_cases hlong : 300 * size < t - f
  · go_wp2_with (first | (go_at_call 14; refine (btw_yes _ _ _ _ (by omega) (by omega)).mono ?_; rintro e w' ⟨rfl, hw⟩; replace hw := hw.symm; subst hw))
    go_ret
    exact ⟨rfl, of_alloc T2.out⟩
  · go_wp2_with (first | (go_at_call 14; refine (btw_yes _ _ _ _ (by omega) (by omega)).mono ?_; rintro e w' ⟨rfl, hw⟩; replace hw := hw.symm; subst hw))
    refine (HTO.out _ (of_alloc T2.out)).mono ?_
    rintro e w3 ⟨hTR, b3⟩
    have T3 : Hid (TabIn w w3 size (.slice a l.length cap)) := box2 T2.out b3
    have W3 := hid (W2.out.below b3 (Nat.le_refl _))
    clear b3 c0 c1
    rcases hTR with ⟨v, M, rfl, ho, hRM, hlM⟩ | ⟨rfl, c, Q, hcQ, hRQ, hlQ⟩
    · rcases hP with ⟨rfl, _, _, _, _, hRL, hlL⟩ | ⟨rfl, _, ⟨hk', _⟩ | ⟨_, hn, _⟩ | ⟨_, _, _, _, rfl, c, Q, hc, hQ, hq⟩⟩
      · have hLM : L = M := hRL.unique hRM
        subst hLM
        obtain ⟨a3, c3, rfl, hw3, k1, k2⟩ := ho.wns fun x hx => W3.out.1 x hx
        have HEQ := hid (equalW_any a1 a3 n1 c3 L L w3 W3.out hw3 hm1 (Nat.le_trans k1 k2))
        rw [decide_eq_true rfl] at HEQ
        clear ho hw3 hRL hRM
        go_wp2_with fail
        refine HEQ.out.mono ?_
        rintro e w4 ⟨rfl, b4⟩
        go_wp2_with fail
        go_ret
        exact ⟨by first | rfl | simp, bel_of (of_alloc T3.out) b4⟩
      · exact absurd HK.out hk'
      · exact absurd ⟨h1, h2, h3⟩ hn
      · have := (hQ.short hRM hc).1
        omega
    · rcases hP with ⟨rfl, _, _, _, _, hRL, hlL⟩ | ⟨rfl, _, ⟨hk', _⟩ | ⟨_, hn, _⟩ | ⟨_, _, _, _, rfl, c', Q', hc', hQ', hq'⟩⟩
      · have := (hRQ.short hRL hcQ).1
        omega
      · exact absurd HK.out hk'
      · exact absurd ⟨h1, h2, h3⟩ hn
      · clear hRQ hQ'
        go_wp2_with fail
        go_ret
        exact ⟨by first | rfl | simp, of_alloc T3.out⟩
theorem tableTurns_walk (size : Int) (a : Option Addr) (len cap : Nat) (l : List Win) (f t : Int) (w : World) (xs : wf64 size) (h : IsWns w a len cap l) (w1 : wf64 f) (w2 : wf64 t) :
    Calls Try.prog 5 #[.agg #[.int .i64 size, .slice a len cap], .int .i64 f, .int .i64 t] w fun e w' => e = .returned (.bool true) ∧ Below w.heap.size w w' := by
  obtain ⟨rfl, _, _, hr, _⟩ := h
  by_cases hk : tchk size l = 0
  · by_cases ht : 0 ≤ f ∧ f ≤ t ∧ t ≤ 1099511627776
    · exact tableTurns_ok size a cap l f t w hr hk ht.1 ht.2.1 ht.2.2
    · exact tableTurns_arg size a cap l f t w hr hk ht
  · exact tableTurns_bad size a cap l f t w hr hk
end TabC
end Go.Proofs.Ytgehdpohiphcpaa
