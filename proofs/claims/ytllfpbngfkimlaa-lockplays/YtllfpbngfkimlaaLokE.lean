/- Contracts of the document's own answers about locks: whether an act behind another one takes (slices.ContainsFunc at a closure of WorksRight). -/
import Derived.Test.YtllfpbngfkimlaaLokB
import Derived.Test.YtllfpbngfkimlaaLockM5
set_option linter.unusedVariables false
namespace Go.Proofs.Ytllfpbngfkimlaa
open Go.RowKit
open Go.Shelf Go.Sort
open SpanM SpanC IntsC
open RowsO hiding Wk
namespace LockC
open LockM
open NumC (Row)
theorem wr_cl (x0 x1 : Int) (w : World) :
    Calls Try.prog 33 #[.agg #[.int .i64 x0, .int .i64 x1]] w fun e w' => e = .returned (.bool (x0 == 2)) ∧ Below w.heap.size w w' := by
  go_enter Try.func33, Try.ntmps33
  go_wp2_with fail
  go_ret
  exact ⟨rfl, by go_grown⟩
def tk2 (l : List LockM.Ac) : Bool := l.any fun a => a.1 == 2
theorem tk2_next {l : List LockM.Ac} {k : Nat} (h : k < l.length) : tk2 (l.take (k + 1)) = (tk2 (l.take k) || ((l.getD k zAc).1 == 2)) := by
  unfold tk2
  rw [List.take_succ_eq_append_getElem h, List.any_append]
  simp [List.getD, h]
theorem tk2_yes {l : List LockM.Ac} {k : Nat} (h : k < l.length) (e : ((l.getD k zAc).1 == 2) = true) : tk2 l = true :=
  List.any_eq_true.2 ⟨l.getD k zAc, by simp [List.getD, h], e⟩
set_option maxRecDepth 20000 in
set_option maxHeartbeats 1600000 in
theorem wrIdx_any (l : List LockM.Ac) (hl : l.length ≤ 100000) (a : Option Addr) (c : Nat) (w : World) (hr : Acs w a l) :
    Calls Try.prog 52 #[.slice a l.length c, .func (.func 33) #[] #[]] w fun e w' => (∃ i : Int, e = .returned (.int .i64 i) ∧ decide (0 ≤ i) = tk2 l) ∧ Below w.heap.size w w' := by
  have HR := hid hr
  have HNX := hid (fun k (hk : k < l.length) => tk2_next hk)
  have HYS := hid (fun k (hk : k < l.length) => tk2_yes hk)
  have HTK := hid (List.take_of_length_le (Nat.le_refl l.length))
  clear hr
  generalize hT : tk2 l = T at *
  go_enter Try.func52, Try.ntmps52
  go_wp2_with fail
  go_loopw [8] (fun v8 wr => ∃ (k : Nat), k ≤ l.length ∧ v8 = .int .i64 k ∧ Hid (tk2 (l.take k) = false) ∧ Below w.heap.size w wr) (fun v8 _ => l.length - (intOf v8).toNat)
  case atStart => exact ⟨0, by omega, rfl, rfl, Below.refl _ _⟩
  case round =>
    obtain ⟨k, hk, rfl, hg, hb⟩ := hrel
    have HB := hid hb
    by_cases hlt : k < l.length
    · obtain ⟨b, off, rfl, _, d1, d2⟩ := (HR.out.below hb (Nat.le_refl _)).at k hlt
      have i1 : (k : Int) < (l.length : Int) := by omega
      have hn := hid (HNX.out k hlt)
      have hy := hid (HYS.out k hlt)
      rw [hg.out, Bool.false_or] at hn
      generalize l.getD k zAc = x at *
      obtain ⟨x0, x1⟩ := x
      simp only at d1 d2 hn hy
      have HC := hid (fun W => wr_cl x0 x1 W)
      clear hb
      generalize (x0 == 2) = q at *
      cases q with
      | true =>
        have HX := hid (hy.out rfl)
        go_wp2_with (go_at_call 33; refine (HC.out _).mono ?_; rintro e w1 ⟨rfl, hb1⟩; have HB1 := hid (HB.out.trans (hb1.mono HB.out.size)); clear hb1)
        go_ret
        exact ⟨⟨_, rfl, by rw [HX.out]; exact decide_eq_true (by omega)⟩, HB1.out⟩
      | false =>
        go_wp2_with (go_at_call 33; refine (HC.out _).mono ?_; rintro e w1 ⟨rfl, hb1⟩; have HB1 := hid (HB.out.trans (hb1.mono HB.out.size)); clear hb1)
        go_roundw
        case rel => exact ⟨k + 1, by omega, by go_num, hn.out, HB1.out⟩
        case measure => simp [intOf]; omega
    · obtain rfl : k = l.length := by omega
      have hg2 := hg.out
      rw [HTK.out, hT] at hg2
      have HG := hid hg2
      clear hb hg2
      go_wp2_with fail
      go_ret
      exact ⟨⟨_, rfl, by rw [HG.out]; rfl⟩, HB.out⟩
theorem wrHas_any (l : List LockM.Ac) (hl : l.length ≤ 100000) (a : Option Addr) (c : Nat) (w : World) (hr : Acs w a l) :
    Calls Try.prog 32 #[.slice a l.length c, .func (.func 33) #[] #[]] w fun e w' => e = .returned (.bool (tk2 l)) ∧ Below w.heap.size w w' := by
  have HI := hid (wrIdx_any l hl a c w hr)
  generalize tk2 l = T at *
  clear hr
  go_enter Try.func32, Try.ntmps32
  go_wp2_with (go_at_call 52; refine HI.out.mono ?_; rintro e w1 ⟨⟨i, rfl, hi⟩, hb1⟩; have HX := hid hi; have HB := hid hb1; clear hi hb1)
  go_ret
  exact ⟨by rw [← HX.out]; rfl, HB.out⟩
theorem acs_drop {w : World} {b off : Nat} {l : List LockM.Ac} (h : Acs w (some ⟨b, off, none⟩) l) (m : Nat) : Acs w (some ⟨b, off + m * 2, none⟩) (l.drop m) := by
  rcases h with rfl | ⟨b', o', e, h⟩
  · exact .inl (by simp)
  · simp only [Option.some.injEq, Addr.mk.injEq, and_true] at e
    obtain ⟨rfl, rfl⟩ := e
    refine .inr ⟨b, off + m * 2, rfl, fun i hi => ?_⟩
    rw [List.length_drop] at hi
    have h1 := h (m + i) (by omega)
    have e1 : off + m * 2 + i * 2 = off + (m + i) * 2 := by omega
    have e2 : (l.drop m).getD i zAc = l.getD (m + i) zAc := by simp [List.getD]
    rw [e1, e2]
    exact h1
/-- what HasAt tells -/
def HaP (l : List LockM.Ac) (j : Nat) (B : Nat) (e : Ending) (w' : World) : Prop :=
  ∃ v o, e = .returned (.tuple #[v, .bool (hasAt l j).isSome]) ∧ OwnI w' B v o ∧ o.length ≤ j ∧ ∀ h, hasAt l j = some h → o = h
/-- .. its contract -/
def HasAtC : Prop := ∀ (cm : Int) (l : List LockM.Ac) (a : Option Addr) (c : Nat), l.length ≤ 30 → ∀ (j : Nat) (w : World), Acs w a l → j ≤ l.length →
    Calls Try.prog 31 #[.agg #[.int .i64 cm, .slice a l.length c], .int .i64 j] w fun e w' => HaP l j w.heap.size e w' ∧ Below w.heap.size w w'
theorem btw_any (x lo hi : Int) (w : World) :
    Calls Try.prog 12 #[.int .i64 x, .int .i64 lo, .int .i64 hi] w fun e w' => e = .returned (.bool (decide (lo ≤ x ∧ x ≤ hi))) ∧ w' = w := by
  by_cases h1 : lo ≤ x
  · by_cases h2 : x ≤ hi
    · rw [decide_eq_true ⟨h1, h2⟩]
      go_enter Try.func12, Try.ntmps12
      go_wp2
      go_ret
      exact ⟨rfl, rfl⟩
    · rw [decide_eq_false (fun h => h2 h.2)]
      go_enter Try.func12, Try.ntmps12
      go_wp2
      go_ret
      exact ⟨rfl, rfl⟩
  · rw [decide_eq_false (fun h => h1 h.1)]
    go_enter Try.func12, Try.ntmps12
    go_wp2
    go_ret
    exact ⟨rfl, rfl⟩
theorem btw_true {x lo hi : Int} (h : lo ≤ x ∧ x ≤ hi) (w : World) : Calls Try.prog 12 #[.int .i64 x, .int .i64 lo, .int .i64 hi] w fun e w' => e = .returned (.bool true) ∧ w' = w := by
  have q := btw_any x lo hi w
  rwa [decide_eq_true h] at q
theorem btw_false {x lo hi : Int} (h : ¬ (lo ≤ x ∧ x ≤ hi)) (w : World) : Calls Try.prog 12 #[.int .i64 x, .int .i64 lo, .int .i64 hi] w fun e w' => e = .returned (.bool false) ∧ w' = w := by
  have q := btw_any x lo hi w
  rwa [decide_eq_false h] at q
end LockC
end Go.Proofs.Ytllfpbngfkimlaa
