/- The document's own answers about ports: SamePort; what PortDone refuses. -/
import Derived.Test.YtllfpbngfkimlaaPrtR
import Derived.Test.YtllfpbngfkimlaaPrtK
set_option linter.unusedVariables false
namespace Go.Proofs.Ytllfpbngfkimlaa
open Go.RowKit
open Go.Shelf Go.Sort
open SpanM SpanC IntsC
namespace PortC
open PrtM
/-- texts that lie somewhere -/
def TX (w : World) (v : Value) (l : List ByteArray) : Prop := ∃ a c, v = .slice a l.length c ∧ RdS w a l ∧ (a = none → l.length = 0 ∧ c = 0) ∧ l.length ≤ c
theorem TX.below {w w' : World} {v : Value} {l : List ByteArray} (h : TX w v l) (hb : Below w.heap.size w w') : TX w' v l := by
  obtain ⟨a, c, e, hr, hn, hc⟩ := h
  exact ⟨a, c, e, hr.below hb (Nat.le_refl _), hn, hc⟩
theorem TX.of_own {w : World} {B : Nat} {v : Value} {l : List ByteArray} (h : OwnS w B v l) : TX w v l := by
  obtain ⟨a, c, e, hr, hn, hc⟩ := own_rd h
  exact ⟨a, c, e, hr, hn, hc⟩
set_option maxRecDepth 20000 in
set_option maxHeartbeats 400000 in
theorem same_yes (x0 x1 x2 x3 x5 : Int) (a b : Option Addr) (n ca cb : Nat) (l : List ByteArray) (w : World) (ha : RdS w a l) (hb : RdS w b l) (hn : n = l.length) (hl : n ≤ 100000) :
    Calls Try.prog 19 #[.agg #[.int .i64 x0, .int .i64 x1, .int .i64 x2, .int .i64 x3, .slice a n ca, .int .i64 x5], .agg #[.int .i64 x0, .int .i64 x1, .int .i64 x2, .int .i64 x3, .slice b n cb, .int .i64 x5]] w fun e w' => e = .returned (.bool true) ∧ Below w.heap.size w w' := by
  have HA := hid ha
  have HB := hid hb
  have HQ := hid (fun wx (h : Below w.heap.size w wx) => (by
    have := eqS_any a b ca cb l l wx (ha.below h (Nat.le_refl _)) (hb.below h (Nat.le_refl _)) (by omega)
    rw [decide_eq_true rfl, ← hn] at this
    exact this : Calls Try.prog 23 #[.slice a n ca, .slice b n cb] wx fun e w' => e = .returned (.bool true) ∧ Below wx.heap.size wx w'))
  clear ha hb hn
  go_enter Try.func19, Try.ntmps19
  go_wp2_with (go_at_call 23; refine (HQ.out _ (by go_grown)).mono ?_; rintro e w2 ⟨rfl, b2⟩; have HB2 := hid b2; clear b2)
  go_ret
  exact ⟨rfl, Below.trans (by go_grown) (HB2.out.mono (by simp only [World.size_alloc]; omega))⟩
set_option maxRecDepth 20000 in
set_option maxHeartbeats 400000 in
theorem wrong_any (pb : Nat) (E : Int) (x0 x1 x2 x3 x5 : Int) (a : Option Addr) (n c : Nat) (w : World) (h : w.heap[pb]? = some (.cells #[.int .i64 x0, .int .i64 x1, .int .i64 x2, .int .i64 x3, .slice a n c, .int .i64 x5] 36)) :
    Calls Try.prog 44 #[.int .i64 E, .pointer (some ⟨pb, 0, none⟩)] w fun e w' => e = .returned (.tuple #[.agg #[.int .i64 x0, .int .i64 x1, .int .i64 x2, .int .i64 x3, .slice a n c, .int .i64 x5], .agg #[.string e0, .bool false, .int .i64 E]]) ∧ Below w.heap.size w w' := by
  have hq := box_alloc (box_alloc h (.cells z6 36)) (.cells z3 44)
  obtain ⟨d0, d1, d2, d3, d4, d5⟩ := six_of hq
  have hlt := (Array.getElem?_eq_some_iff.1 h).1
  have n1 : ¬ pb = w.heap.size := by omega
  have n2 : ¬ w.heap.size = pb := by omega
  clear h hq hlt
  go_enter Try.func44, Try.ntmps44
  go_wp2_with fail
  go_returns
  exact ⟨rfl, by go_grown⟩
end PortC
end Go.Proofs.Ytllfpbngfkimlaa
