/- Several texts, one behind the other: IdL. -/
import Derived.Test.YtpnahhpkaegeeaaPkR
/- Contracts of slices.IndexFunc, slices.ContainsFunc at a closure of LatesOf (written by gen_idx.py). -/
set_option linter.unusedVariables false
namespace Go.Proofs.Ytpnahhpkaegeeaa
open Go.RowKit hiding tok
open SpanM SpanC TaskM PlayM
open RowsO hiding Tk
namespace PlayC
open NumC (Row)
open RowG
def ltq (x : Pl.Dn) (t j d : Int) : Bool := decide (x.1 = t ∧ x.2.1 = j ∧ x.2.2.2 ≤ d)
theorem lt_cl (x : Pl.Dn) (t j d : Int) (X Y : Nat) (W : World) (hX : X < W.heap.size) (hY : Y < W.heap.size) (c0 : W.cell? ⟨X, 0, none⟩ = some (.int .i64 t)) (c1 : W.cell? ⟨X, 1, none⟩ = some (.int .i64 j)) (c2 : W.cell? ⟨Y, 0, none⟩ = some (.int .i64 d)) :
    Calls Try.prog 57 #[.agg #[.int .i64 x.1, .int .i64 x.2.1, .int .i64 x.2.2.1, .int .i64 x.2.2.2], .pointer (some ⟨X, 0, none⟩), .pointer (some ⟨Y, 0, none⟩)] W fun e' w' => e' = .returned (.bool (ltq x t j d)) ∧ Below W.heap.size W w' := by
  obtain ⟨x0, x1, x2, x3⟩ := x
  unfold ltq
  simp only
  have C : (x0 = t ∧ x1 = j ∧ x3 ≤ d) ∨ (x0 = t ∧ x1 = j ∧ ¬ x3 ≤ d) ∨ (x0 = t ∧ x1 ≠ j) ∨ x0 ≠ t := by omega
  rcases C with ⟨h1, h2, h3⟩ | ⟨h1, h2, h3⟩ | ⟨h1, h2⟩ | h1
  · rw [decide_eq_true ⟨h1, h2, h3⟩]
    have e1 : (x0 == t) = true := by simp [h1]
    have e2 : (x1 == j) = true := by simp [h2]
    clear h1 h2
    go_enter Try.func57, Try.ntmps57
    go_wp2_with fail
    go_ret
    exact ⟨rfl, by go_grown⟩
  · rw [decide_eq_false (by omega)]
    have e1 : (x0 == t) = true := by simp [h1]
    have e2 : (x1 == j) = true := by simp [h2]
    clear h1 h2
    go_enter Try.func57, Try.ntmps57
    go_wp2_with fail
    go_ret
    exact ⟨rfl, by go_grown⟩
  · rw [decide_eq_false (by omega)]
    have e1 : (x0 == t) = true := by simp [h1]
    have e2 : (x1 == j) = false := by simp [h2]
    clear h1 h2
    go_enter Try.func57, Try.ntmps57
    go_wp2_with fail
    go_ret
    exact ⟨rfl, by go_grown⟩
  · rw [decide_eq_false (by omega)]
    have e1 : (x0 == t) = false := by simp [h1]
    clear h1
    go_enter Try.func57, Try.ntmps57
    go_wp2_with fail
    go_ret
    exact ⟨rfl, by go_grown⟩

/-- the first one that is meant, or -1 -/
def ltAt (l : List Pl.Dn) (t j d : Int) (i : Int) : Prop := (i = -1 ∧ ∀ x ∈ l, ltq x t j d = false) ∨ ∃ k : Nat, i = k ∧ ∃ h : k < l.length, ltq l[k] t j d = true ∧ ∀ jj, (h : jj < k) → ∀ h2 : jj < l.length, ltq l[jj] t j d = false
theorem lt_none {l : List Pl.Dn} {k : Nat} (t j d : Int) (h0 : ∀ x ∈ l.take k, ltq x t j d = false) (hk : k < l.length) (h1 : ltq l[k] t j d = false) : ∀ x ∈ l.take (k + 1), ltq x t j d = false := by
  intro x hx
  rw [List.take_succ_eq_append_getElem hk] at hx
  rcases List.mem_append.1 hx with hx | hx
  · exact h0 x hx
  · simp at hx; subst hx; exact h1
theorem lt_some {l : List Pl.Dn} {k : Nat} (t j d : Int) (h0 : ∀ x ∈ l.take k, ltq x t j d = false) (hk : k < l.length) (h1 : ltq l[k] t j d = true) : ltAt l t j d k :=
  .inr ⟨k, rfl, hk, h1, fun jj hj h2 => h0 _ (List.mem_take_iff_getElem.2 ⟨jj, by omega, rfl⟩)⟩
set_option maxRecDepth 20000 in
set_option maxHeartbeats 1600000 in
theorem lt_index (a : Option Addr) (cap : Nat) (l : List Pl.Dn) (t j d : Int) (X Y : Nat) (w : World) (hr : Rd ED w a l) (hl : l.length ≤ 100000) (hX : X < w.heap.size) (hY : Y < w.heap.size) (c0 : w.cell? ⟨X, 0, none⟩ = some (.int .i64 t)) (c1 : w.cell? ⟨X, 1, none⟩ = some (.int .i64 j)) (c2 : w.cell? ⟨Y, 0, none⟩ = some (.int .i64 d)) :
    Calls Try.prog 36 #[.slice a l.length cap, .func (.func 57) #[] #[.pointer (some ⟨X, 0, none⟩), .pointer (some ⟨Y, 0, none⟩)]] w fun e w' => (∃ i : Int, e = .returned (.int .i64 i) ∧ ltAt l t j d i) ∧ Below w.heap.size w w' := by
  have HR := hid hr
  have HC := hid (fun W (h : Below w.heap.size w W) => (⟨(h.cell hX).trans c0, (h.cell hX).trans c1, (h.cell hY).trans c2, Nat.lt_of_lt_of_le hX h.size, Nat.lt_of_lt_of_le hY h.size⟩ : W.cell? ⟨X, 0, none⟩ = some (.int .i64 t) ∧ W.cell? ⟨X, 1, none⟩ = some (.int .i64 j) ∧ W.cell? ⟨Y, 0, none⟩ = some (.int .i64 d) ∧ X < W.heap.size ∧ Y < W.heap.size))
  clear hr c0 c1 c2
  go_enter Try.func36, Try.ntmps36
  go_wp2_with fail
  go_loopw [8] (fun v8 wr => ∃ (k : Nat), k ≤ l.length ∧ v8 = .int .i64 k ∧ Hid (∀ x ∈ l.take k, ltq x t j d = false) ∧ Below w.heap.size w wr) (fun v8 _ => l.length - (intOf v8).toNat)
  case atStart => exact ⟨0, by omega, rfl, (by intro x hx; simp at hx), Below.refl _ _⟩
  case round =>
    obtain ⟨k, hk, rfl, hg, hb⟩ := hrel
    have HB := hid hb
    by_cases hlt : k < l.length
    · obtain ⟨b, off, rfl, hc⟩ := (HR.out.below hb (Nat.le_refl _)).at k hlt
      have hx1 := hid (fun h1 => lt_none (t := t) (j := j) (d := d) hg.out hlt h1)
      have hx2 := hid (fun h1 => lt_some (t := t) (j := j) (d := d) hg.out hlt h1)
      obtain ⟨q0, q1, q2, q3, q4⟩ := HC.out wr hb
      have hin := fun x => lt_cl x t j d X Y wr q3 q4 q0 q1 q2
      clear q0 q1 q2 q3 q4
      clear hb
      generalize l[k] = x at *
      have hin := hin x
      obtain ⟨x0, x1, x2, x3⟩ := x
      have a0 := hc 0 (by decide); have a1 := hc 1 (by decide); have a2 := hc 2 (by decide); have a3 := hc 3 (by decide)
      simp [ED] at a0 a1 a2 a3
      simp only at hin
      clear hc
      have HIN := hid hin
      have hcase : ltq (x0, x1, x2, x3) t j d = true ∨ ltq (x0, x1, x2, x3) t j d = false := by cases ltq (x0, x1, x2, x3) t j d <;> simp
      clear hin
      rcases hcase with hq | hq
      · rw [hq] at HIN
        have HX := hid (hx2.out hq)
        clear hq
        go_wp2_with (go_at_call 57; refine Calls.mono HIN.out ?_; rintro e' w' ⟨rfl, hb'⟩)
        go_ret
        exact ⟨⟨_, rfl, HX.out⟩, bel_of HB.out hb'⟩
      · rw [hq] at HIN
        have HX := hid (hx1.out hq)
        clear hq
        go_wp2_with (go_at_call 57; refine Calls.mono HIN.out ?_; rintro e' w' ⟨rfl, hb'⟩)
        go_roundw
        case rel => exact ⟨k + 1, by omega, by go_num, HX.out, bel_of HB.out hb'⟩
        case measure => simp [intOf]; omega
    · have HF : Hid (∀ x ∈ l, ltq x t j d = false) := by
        have := hg.out
        rwa [List.take_of_length_le (by omega)] at this
      clear hb
      go_wp2_with fail
      go_ret
      exact ⟨⟨_, rfl, .inl ⟨by simp, HF.out⟩⟩, HB.out⟩
theorem ltAt.any {l : List Pl.Dn} (t j d : Int) {i : Int} (h : ltAt l t j d i) : decide (0 ≤ i) = l.any fun x => ltq x t j d := by
  rcases h with ⟨rfl, h⟩ | ⟨k, rfl, hk, h1, _⟩
  · rw [decide_eq_false (by omega)]
    symm
    rw [List.any_eq_false]
    intro x hx
    simp [h x hx]
  · rw [decide_eq_true (by omega)]
    symm
    rw [List.any_eq_true]
    exact ⟨_, List.getElem_mem hk, h1⟩
theorem lt_contains (a : Option Addr) (cap : Nat) (l : List Pl.Dn) (t j d : Int) (X Y : Nat) (w : World) (hr : Rd ED w a l) (hl : l.length ≤ 100000) (hX : X < w.heap.size) (hY : Y < w.heap.size) (c0 : w.cell? ⟨X, 0, none⟩ = some (.int .i64 t)) (c1 : w.cell? ⟨X, 1, none⟩ = some (.int .i64 j)) (c2 : w.cell? ⟨Y, 0, none⟩ = some (.int .i64 d)) :
    Calls Try.prog 56 #[.slice a l.length cap, .func (.func 57) #[] #[.pointer (some ⟨X, 0, none⟩), .pointer (some ⟨Y, 0, none⟩)]] w fun e w' => e = .returned (.bool (l.any fun x => ltq x t j d)) ∧ Below w.heap.size w w' := by
  have HI := hid (lt_index a cap l t j d X Y w hr hl hX hY c0 c1 c2)
  have HA := hid (fun i (h : ltAt l t j d i) => h.any)
  generalize (l.any fun x => ltq x t j d) = M at *
  clear hr c0 c1 c2
  go_enter Try.func56, Try.ntmps56
  go_wp2_with (go_at_call 36; refine Calls.mono HI.out ?_; rintro e w' ⟨⟨i, rfl, hi⟩, hb⟩; have hi' := hid (HA.out i hi); clear hi)
  go_ret
  exact ⟨by rw [← hi'.out]; first | rfl | simp, hb⟩
end PlayC
end Go.Proofs.Ytpnahhpkaegeeaa
