/- Several texts, one behind the other: IdA. -/
import Derived.Test.YtpnahhpkaegeeaaPkJ
/- Contracts of slices.IndexFunc, slices.ContainsFunc at a closure of PlayAhead (written by gen_idx.py). -/
set_option linter.unusedVariables false
namespace Go.Proofs.Ytpnahhpkaegeeaa
open Go.RowKit hiding tok
open SpanM SpanC TaskM PlayM
open RowsO hiding Tk
namespace PlayC
open NumC (Row)
open RowG
def ahq (x : Pl.Dn) (t : Int) : Bool := decide (t ≤ x.1)
theorem ah_cl (x : Pl.Dn) (t : Int) (X : Nat) (W : World) (hX : X < W.heap.size) (c0 : W.cell? ⟨X, 0, none⟩ = some (.int .i64 t)) :
    Calls Try.prog 34 #[.agg #[.int .i64 x.1, .int .i64 x.2.1, .int .i64 x.2.2.1, .int .i64 x.2.2.2], .pointer (some ⟨X, 0, none⟩)] W fun e' w' => e' = .returned (.bool (ahq x t)) ∧ Below W.heap.size W w' := by
  obtain ⟨x0, x1, x2, x3⟩ := x
  unfold ahq
  simp only
  by_cases h1 : t ≤ x0
  all_goals
    first | rw [decide_eq_true h1] | rw [decide_eq_false h1]
    go_enter Try.func34, Try.ntmps34
    go_wp2_with fail
    go_ret
    exact ⟨rfl, by go_grown⟩

/-- the first one that is meant, or -1 -/
def ahAt (l : List Pl.Dn) (t : Int) (i : Int) : Prop := (i = -1 ∧ ∀ x ∈ l, ahq x t = false) ∨ ∃ k : Nat, i = k ∧ ∃ h : k < l.length, ahq l[k] t = true ∧ ∀ jj, (h : jj < k) → ∀ h2 : jj < l.length, ahq l[jj] t = false
theorem ah_none {l : List Pl.Dn} {k : Nat} (t : Int) (h0 : ∀ x ∈ l.take k, ahq x t = false) (hk : k < l.length) (h1 : ahq l[k] t = false) : ∀ x ∈ l.take (k + 1), ahq x t = false := by
  intro x hx
  rw [List.take_succ_eq_append_getElem hk] at hx
  rcases List.mem_append.1 hx with hx | hx
  · exact h0 x hx
  · simp at hx; subst hx; exact h1
theorem ah_some {l : List Pl.Dn} {k : Nat} (t : Int) (h0 : ∀ x ∈ l.take k, ahq x t = false) (hk : k < l.length) (h1 : ahq l[k] t = true) : ahAt l t k :=
  .inr ⟨k, rfl, hk, h1, fun jj hj h2 => h0 _ (List.mem_take_iff_getElem.2 ⟨jj, by omega, rfl⟩)⟩
set_option maxRecDepth 20000 in
set_option maxHeartbeats 1600000 in
theorem ah_index (a : Option Addr) (cap : Nat) (l : List Pl.Dn) (t : Int) (X : Nat) (w : World) (hr : Rd ED w a l) (hl : l.length ≤ 100000) (hX : X < w.heap.size) (c0 : w.cell? ⟨X, 0, none⟩ = some (.int .i64 t)) :
    Calls Try.prog 36 #[.slice a l.length cap, .func (.func 34) #[] #[.pointer (some ⟨X, 0, none⟩)]] w fun e w' => (∃ i : Int, e = .returned (.int .i64 i) ∧ ahAt l t i) ∧ Below w.heap.size w w' := by
  have HR := hid hr
  have HC := hid (fun W (h : Below w.heap.size w W) => (⟨(h.cell hX).trans c0, Nat.lt_of_lt_of_le hX h.size⟩ : W.cell? ⟨X, 0, none⟩ = some (.int .i64 t) ∧ X < W.heap.size))
  clear hr c0
  go_enter Try.func36, Try.ntmps36
  go_wp2_with fail
  go_loopw [8] (fun v8 wr => ∃ (k : Nat), k ≤ l.length ∧ v8 = .int .i64 k ∧ Hid (∀ x ∈ l.take k, ahq x t = false) ∧ Below w.heap.size w wr) (fun v8 _ => l.length - (intOf v8).toNat)
  case atStart => exact ⟨0, by omega, rfl, (by intro x hx; simp at hx), Below.refl _ _⟩
  case round =>
    obtain ⟨k, hk, rfl, hg, hb⟩ := hrel
    have HB := hid hb
    by_cases hlt : k < l.length
    · obtain ⟨b, off, rfl, hc⟩ := (HR.out.below hb (Nat.le_refl _)).at k hlt
      have hx1 := hid (fun h1 => ah_none (t := t) hg.out hlt h1)
      have hx2 := hid (fun h1 => ah_some (t := t) hg.out hlt h1)
      obtain ⟨q0, q3⟩ := HC.out wr hb
      have hin := fun x => ah_cl x t X wr q3 q0
      clear q0 q3
      clear hb
      generalize l[k] = x at *
      have hin := hin x
      obtain ⟨x0, x1, x2, x3⟩ := x
      have a0 := hc 0 (by decide); have a1 := hc 1 (by decide); have a2 := hc 2 (by decide); have a3 := hc 3 (by decide)
      simp [ED] at a0 a1 a2 a3
      simp only at hin
      clear hc
      have HIN := hid hin
      have hcase : ahq (x0, x1, x2, x3) t = true ∨ ahq (x0, x1, x2, x3) t = false := by cases ahq (x0, x1, x2, x3) t <;> simp
      clear hin
      rcases hcase with hq | hq
      · rw [hq] at HIN
        have HX := hid (hx2.out hq)
        clear hq
        go_wp2_with (go_at_call 34; refine Calls.mono HIN.out ?_; rintro e' w' ⟨rfl, hb'⟩)
        go_ret
        exact ⟨⟨_, rfl, HX.out⟩, bel_of HB.out hb'⟩
      · rw [hq] at HIN
        have HX := hid (hx1.out hq)
        clear hq
        go_wp2_with (go_at_call 34; refine Calls.mono HIN.out ?_; rintro e' w' ⟨rfl, hb'⟩)
        go_roundw
        case rel => exact ⟨k + 1, by omega, by go_num, HX.out, bel_of HB.out hb'⟩
        case measure => simp [intOf]; omega
    · have HF : Hid (∀ x ∈ l, ahq x t = false) := by
        have := hg.out
        rwa [List.take_of_length_le (by omega)] at this
      clear hb
      go_wp2_with fail
      go_ret
      exact ⟨⟨_, rfl, .inl ⟨by simp, HF.out⟩⟩, HB.out⟩
end PlayC
end Go.Proofs.Ytpnahhpkaegeeaa
