/- Several texts, one behind the other: IdF. -/
import Derived.Test.YtpnahhpkaegeeaaPkJ
/- Contracts of slices.IndexFunc, slices.ContainsFunc at a closure of FirstsRight (ints) (written by gen_idx.py). -/
set_option linter.unusedVariables false
namespace Go.Proofs.Ytpnahhpkaegeeaa
open Go.RowKit hiding tok
open SpanM SpanC TaskM PlayM
open RowsO hiding Tk
namespace PlayC
open NumC (Row)
open RowG
def frq (x : Int) (_ : Unit) : Bool := decide (¬ fok x)
theorem Row.at' {w : World} {a : Option Addr} {l : List Int} (h : Row w a l) (k : Nat) (hk : k < l.length) : ∃ b off, a = some ⟨b, off, none⟩ ∧ w.cell? ⟨b, off + k, none⟩ = some (.int .i64 l[k]) := by
  obtain ⟨b, off, rfl, _, h⟩ := Row.at h k hk
  exact ⟨b, off, rfl, by rw [h]; simp [List.getD, hk]⟩
theorem fr_cl (x : Int) (u : Unit) (W : World) :
    Calls Try.prog 52 #[.int .i64 x] W fun e' w' => e' = .returned (.bool (frq x u)) ∧ Below W.heap.size W w' := by
  unfold frq
  by_cases h : fok x
  · rw [decide_eq_false (by simpa using h)]
    obtain ⟨h1, h2⟩ := h
    go_enter Try.func52, Try.ntmps52
    go_wp2_with (first | (go_at_call 18; go_call (NumC.between_yes _ _ _ _) as e w' ⟨rfl, rfl⟩))
    go_ret
    exact ⟨rfl, Below.refl _ _⟩
  · rw [decide_eq_true h]
    unfold fok at h
    go_enter Try.func52, Try.ntmps52
    go_wp2_with (first | (go_at_call 18; go_call (NumC.between_no _ _ _ _) as e w' ⟨rfl, rfl⟩))
    go_ret
    exact ⟨rfl, Below.refl _ _⟩

/-- the first one that is meant, or -1 -/
def frAt (l : List Int) (u : Unit) (i : Int) : Prop := (i = -1 ∧ ∀ x ∈ l, frq x u = false) ∨ ∃ k : Nat, i = k ∧ ∃ h : k < l.length, frq l[k] u = true ∧ ∀ jj, (h : jj < k) → ∀ h2 : jj < l.length, frq l[jj] u = false
theorem fr_none {l : List Int} {k : Nat} (u : Unit) (h0 : ∀ x ∈ l.take k, frq x u = false) (hk : k < l.length) (h1 : frq l[k] u = false) : ∀ x ∈ l.take (k + 1), frq x u = false := by
  intro x hx
  rw [List.take_succ_eq_append_getElem hk] at hx
  rcases List.mem_append.1 hx with hx | hx
  · exact h0 x hx
  · simp at hx; subst hx; exact h1
theorem fr_some {l : List Int} {k : Nat} (u : Unit) (h0 : ∀ x ∈ l.take k, frq x u = false) (hk : k < l.length) (h1 : frq l[k] u = true) : frAt l u k :=
  .inr ⟨k, rfl, hk, h1, fun jj hj h2 => h0 _ (List.mem_take_iff_getElem.2 ⟨jj, by omega, rfl⟩)⟩
set_option maxRecDepth 20000 in
set_option maxHeartbeats 1600000 in
theorem fr_index (a : Option Addr) (cap : Nat) (l : List Int) (u : Unit)  (w : World) (hr : Row w a l) (hl : l.length ≤ 100000)  :
    Calls Try.prog 75 #[.slice a l.length cap, .func (.func 52) #[] #[]] w fun e w' => (∃ i : Int, e = .returned (.int .i64 i) ∧ frAt l u i) ∧ Below w.heap.size w w' := by
  have HR := hid hr

  clear hr
  go_enter Try.func75, Try.ntmps75
  go_wp2_with fail
  go_loopw [8] (fun v8 wr => ∃ (k : Nat), k ≤ l.length ∧ v8 = .int .i64 k ∧ Hid (∀ x ∈ l.take k, frq x u = false) ∧ Below w.heap.size w wr) (fun v8 _ => l.length - (intOf v8).toNat)
  case atStart => exact ⟨0, by omega, rfl, (by intro x hx; simp at hx), Below.refl _ _⟩
  case round =>
    obtain ⟨k, hk, rfl, hg, hb⟩ := hrel
    have HB := hid hb
    by_cases hlt : k < l.length
    · obtain ⟨b, off, rfl, hc⟩ := Row.at' (Row.below HR.out hb (Nat.le_refl _)) k hlt
      have hx1 := hid (fun h1 => fr_none (u := u) hg.out hlt h1)
      have hx2 := hid (fun h1 => fr_some (u := u) hg.out hlt h1)
      have hin := fr_cl l[k] u wr
      clear hb
      generalize l[k] = x at *

      have HIN := hid hin
      have hcase : frq x u = true ∨ frq x u = false := by cases frq x u <;> simp
      clear hin
      rcases hcase with hq | hq
      · rw [hq] at HIN
        have HX := hid (hx2.out hq)
        clear hq
        go_wp2_with (go_at_call 52; refine Calls.mono HIN.out ?_; rintro e' w' ⟨rfl, hb'⟩)
        go_ret
        exact ⟨⟨_, rfl, HX.out⟩, bel_of HB.out hb'⟩
      · rw [hq] at HIN
        have HX := hid (hx1.out hq)
        clear hq
        go_wp2_with (go_at_call 52; refine Calls.mono HIN.out ?_; rintro e' w' ⟨rfl, hb'⟩)
        go_roundw
        case rel => exact ⟨k + 1, by omega, by go_num, HX.out, bel_of HB.out hb'⟩
        case measure => simp [intOf]; omega
    · have HF : Hid (∀ x ∈ l, frq x u = false) := by
        have := hg.out
        rwa [List.take_of_length_le (by omega)] at this
      clear hb
      go_wp2_with fail
      go_ret
      exact ⟨⟨_, rfl, .inl ⟨by simp, HF.out⟩⟩, HB.out⟩
theorem frAt.any {l : List Int} (u : Unit) {i : Int} (h : frAt l u i) : decide (0 ≤ i) = l.any fun x => frq x u := by
  rcases h with ⟨rfl, h⟩ | ⟨k, rfl, hk, h1, _⟩
  · rw [decide_eq_false (by omega)]
    symm
    rw [List.any_eq_false]
    intro x hx
    simp [h x hx]
  · rw [decide_eq_true (by omega)]
    symm
    rw [List.any_eq_true]
    exact ⟨_, List.getElem_mem hk, h1⟩
theorem fr_contains (a : Option Addr) (cap : Nat) (l : List Int) (u : Unit)  (w : World) (hr : Row w a l) (hl : l.length ≤ 100000)  :
    Calls Try.prog 51 #[.slice a l.length cap, .func (.func 52) #[] #[]] w fun e w' => e = .returned (.bool (l.any fun x => frq x u)) ∧ Below w.heap.size w w' := by
  have HI := hid (fr_index a cap l u  w hr hl )
  have HA := hid (fun i (h : frAt l u i) => h.any)
  generalize (l.any fun x => frq x u) = M at *
  clear hr
  go_enter Try.func51, Try.ntmps51
  go_wp2_with (go_at_call 75; refine Calls.mono HI.out ?_; rintro e w' ⟨⟨i, rfl, hi⟩, hb⟩; have hi' := hid (HA.out i hi); clear hi)
  go_ret
  exact ⟨by rw [← hi'.out]; first | rfl | simp, hb⟩
end PlayC
end Go.Proofs.Ytpnahhpkaegeeaa
