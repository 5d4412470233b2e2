/- Programs as mathematics (stage 11): instructions, states, what is done next. -/
import Derived.Test.YtceflfdpbgnfjaaVmM
set_option linter.unusedVariables false
namespace Go.Proofs.Ytceflfdpbgnfjaa
namespace VmP
open VmM
abbrev In := Int × Int × Int
abbrev Em := Int × Int
structure St where
  pc : Int
  regs : List Int
  halts : Bool
  fault : Bool
def zIn : In := (0, 0, 0)
def n32 (x : Int) : Bool := decide (-2147483648 ≤ x ∧ x ≤ 2147483647)
def reg8 (x : Int) : Bool := decide (0 ≤ x ∧ x ≤ 7)
theorem n32_iff {x : Int} : n32 x = true ↔ -2147483648 ≤ x ∧ x ≤ 2147483647 := by simp [n32]
theorem reg8_iff {x : Int} : reg8 x = true ↔ 0 ≤ x ∧ x ≤ 7 := by simp [reg8]
def ar (x : Int) : Int := (x + 2147483648) % 4294967296 - 2147483648
theorem ar_n32 (x : Int) : n32 (ar x) = true := by rw [n32_iff]; unfold ar; omega
def goodA (x : In) : Bool := if x.1 = 6 ∨ x.1 = 11 then decide (x.2.1 = 0) else reg8 x.2.1
def goodB (x : In) (n : Int) : Bool :=
  if x.1 = 1 then n32 x.2.2
  else if 2 ≤ x.1 ∧ x.1 ≤ 5 then reg8 x.2.2
  else if 6 ≤ x.1 ∧ x.1 ≤ 8 then decide (0 ≤ x.2.2 ∧ x.2.2 ≤ n)
  else if x.1 = 9 ∨ x.1 = 11 then decide (x.2.2 = 0)
  else if x.1 = 10 then decide (0 ≤ x.2.2 ∧ x.2.2 ≤ 3)
  else false
def good (n : Int) (x : In) : Bool := goodA x && goodB x n
def chk (p : List In) : Int := if 100 < p.length then 2 else if p.all (good p.length) = true then 0 else 4
theorem chk_zero {p : List In} (h : chk p = 0) : p.length ≤ 100 ∧ ∀ x ∈ p, good p.length x = true := by
  unfold chk at h
  split at h
  · simp at h
  · split at h
    · rename_i h1 h2; exact ⟨by omega, fun x hx => List.all_eq_true.1 h2 x hx⟩
    · simp at h
theorem chk_cases (p : List In) : chk p = 0 ∨ chk p = 2 ∨ chk p = 4 := by
  unfold chk
  split
  · simp
  · split <;> simp
def RgtOk (s : St) : Prop := (0 ≤ s.pc ∧ s.pc ≤ 100) ∧ s.regs.length = 8 ∧ s.regs.all n32 = true ∧ ¬ (s.halts = true ∧ s.fault = true)
instance (s : St) : Decidable (RgtOk s) := by unfold RgtOk; infer_instance
def rgt (s : St) : Int := if RgtOk s then 0 else 4
theorem rgt_zero {s : St} (h : rgt s = 0) : RgtOk s := by
  unfold rgt at h; split at h
  · assumption
  · simp at h
/-- what Run says first -/
def rE (p : List In) (s : St) (i : List Int) (fuel : Int) : Int :=
  if chk p ≠ 0 then chk p else if rgt s ≠ 0 then 4 else if (p.length : Int) < s.pc ∨ i.all n32 ≠ true then 4
  else if ¬ (0 ≤ fuel ∧ fuel ≤ 5000) then 1 else if 5000 < i.length then 2 else 0
def reg (s : St) (a : Int) : Int := s.regs.getD a.toNat 0
def jmp (s : St) (x : In) : Bool := decide (x.1 = 6) || (decide (x.1 = 7) && decide (reg s x.2.1 = 0)) || (decide (x.1 = 8) && decide (reg s x.2.1 < 0))
def val (s : St) (x : In) : Int :=
  if x.1 = 1 then x.2.2 else if x.1 = 2 then reg s x.2.2 else if x.1 = 3 then ar (reg s x.2.1 + reg s x.2.2)
  else if x.1 = 4 then ar (reg s x.2.1 - reg s x.2.2) else ar (reg s x.2.1 * reg s x.2.2)
def put (s : St) (x : In) : List Int := if 1 ≤ x.1 ∧ x.1 ≤ 5 then s.regs.set x.2.1.toNat (val s x) else s.regs
def act (p : List In) (s : St) : Do St Em :=
  if s.halts = true ∨ s.fault = true then .stop
  else if s.pc = p.length then .go { s with fault := true } []
  else if (p.getD s.pc.toNat zIn).1 = 11 then .go { s with halts := true } []
  else if jmp s (p.getD s.pc.toNat zIn) = true then .go { s with pc := (p.getD s.pc.toNat zIn).2.2 } []
  else if (p.getD s.pc.toNat zIn).1 = 9 then .take fun n => ⟨s.pc + 1, s.regs.set (p.getD s.pc.toNat zIn).2.1.toNat n, s.halts, s.fault⟩
  else if (p.getD s.pc.toNat zIn).1 = 10 then .go ⟨s.pc + 1, s.regs, s.halts, s.fault⟩ [((p.getD s.pc.toNat zIn).2.2, reg s (p.getD s.pc.toNat zIn).2.1)]
  else .go ⟨s.pc + 1, put s (p.getD s.pc.toNat zIn), s.halts, s.fault⟩ []
/-- a state that may be run -/
structure Ok (p : List In) (s : St) : Prop where
  lo : 0 ≤ s.pc
  hi : s.pc ≤ p.length
  len : s.regs.length = 8
  n : ∀ x ∈ s.regs, n32 x = true
  hf : ¬ (s.halts = true ∧ s.fault = true)
theorem rE_zero {p : List In} {s : St} {i : List Int} {fuel : Int} (h : rE p s i fuel = 0) : chk p = 0 ∧ Ok p s ∧ (∀ x ∈ i, n32 x = true) ∧ 0 ≤ fuel ∧ fuel ≤ 5000 ∧ i.length ≤ 5000 := by
  unfold rE at h
  split at h
  · rename_i a; exact absurd h a
  · rename_i a
    split at h
    · simp at h
    · rename_i b
      split at h
      · simp at h
      · rename_i c
        split at h
        · simp at h
        · rename_i d
          split at h
          · simp at h
          · have r := rgt_zero (show rgt s = 0 by omega)
            have c1 : ¬ (p.length : Int) < s.pc := fun q => c (.inl q)
            have c2 : i.all n32 = true := by
              by_cases q : i.all n32 = true
              · exact q
              · exact absurd (.inr q) c
            exact ⟨by omega, ⟨r.1.1, by omega, r.2.1, fun x hx => List.all_eq_true.1 r.2.2.1 x hx, r.2.2.2⟩, fun x hx => List.all_eq_true.1 c2 x hx, by omega, by omega, by omega⟩
theorem Ok.rgt {p : List In} {s : St} (h : Ok p s) (hp : p.length ≤ 100) : rgt s = 0 := by
  unfold VmP.rgt
  rw [if_pos]
  exact ⟨⟨h.lo, by have := h.hi; omega⟩, h.len, List.all_eq_true.2 h.n, h.hf⟩
theorem rE_ok {p : List In} {s : St} {i : List Int} {fuel : Int} (hp : chk p = 0) (h : Ok p s) (hi : ∀ x ∈ i, n32 x = true) (h0 : 0 ≤ fuel) (h1 : fuel ≤ 5000) (hl : i.length ≤ 5000) : rE p s i fuel = 0 := by
  unfold rE
  rw [if_neg (by omega), if_neg (by have := h.rgt (chk_zero hp).1; omega), if_neg, if_neg (by omega), if_neg (by omega)]
  rintro (q | q)
  · have := h.hi; omega
  · exact q (List.all_eq_true.2 hi)
theorem reg_n {s : St} {p : List In} (h : Ok p s) (a : Int) : n32 (reg s a) = true := by
  unfold reg
  by_cases q : a.toNat < s.regs.length
  · simp only [List.getD, List.getElem?_eq_getElem q, Option.getD_some]; exact h.n _ (List.getElem_mem q)
  · simp [List.getD, List.getElem?_eq_none (show s.regs.length ≤ a.toNat by omega), n32]
theorem set_n {l : List Int} (h : ∀ x ∈ l, n32 x = true) (k : Nat) {v : Int} (hv : n32 v = true) : ∀ x ∈ l.set k v, n32 x = true := fun x hx => by
  rcases List.mem_or_eq_of_mem_set hx with q | q
  · exact h x q
  · rw [q]; exact hv
theorem in_p {p : List In} {s : St} (h : Ok p s) (hne : s.pc ≠ p.length) : s.pc.toNat < p.length ∧ ((s.pc.toNat : Nat) : Int) = s.pc := by
  have := h.lo; have := h.hi; omega
theorem get_mem {p : List In} {k : Nat} (h : k < p.length) : p.getD k zIn ∈ p := by simp [List.getD, h]
theorem Ok.good {p : List In} {s : St} (hp : chk p = 0) (h : Ok p s) (hne : s.pc ≠ p.length) : VmP.good p.length (p.getD s.pc.toNat zIn) = true :=
  (chk_zero hp).2 _ (get_mem (in_p h hne).1)
/-- what a good instruction has -/
theorem good_cases {n : Int} {x : In} (h : good n x = true) :
    (1 ≤ x.1 ∧ x.1 ≤ 11) ∧ (x.1 ≠ 6 → x.1 ≠ 11 → 0 ≤ x.2.1 ∧ x.2.1 ≤ 7) ∧ (x.1 = 6 ∨ x.1 = 11 → x.2.1 = 0) ∧ (x.1 = 1 → n32 x.2.2 = true) ∧ (2 ≤ x.1 → x.1 ≤ 5 → 0 ≤ x.2.2 ∧ x.2.2 ≤ 7) ∧ (6 ≤ x.1 → x.1 ≤ 8 → 0 ≤ x.2.2 ∧ x.2.2 ≤ n) ∧ (x.1 = 9 ∨ x.1 = 11 → x.2.2 = 0) ∧ (x.1 = 10 → 0 ≤ x.2.2 ∧ x.2.2 ≤ 3) := by
  simp only [good, Bool.and_eq_true] at h
  obtain ⟨ha, hb⟩ := h
  unfold goodA at ha
  unfold goodB at hb
  have hA : (x.1 = 6 ∨ x.1 = 11 → x.2.1 = 0) ∧ (x.1 ≠ 6 → x.1 ≠ 11 → 0 ≤ x.2.1 ∧ x.2.1 ≤ 7) := by
    split at ha
    · rename_i q; simp at ha; exact ⟨fun _ => ha, fun a b => by omega⟩
    · rename_i q; exact ⟨fun a => absurd a q, fun _ _ => reg8_iff.1 ha⟩
  split at hb
  · rename_i q; exact ⟨by omega, hA.2, hA.1, fun _ => hb, fun _ _ => by omega, fun _ _ => by omega, fun _ => by omega, fun _ => by omega⟩
  · rename_i q1
    split at hb
    · rename_i q; exact ⟨by omega, hA.2, hA.1, fun _ => by omega, fun _ _ => reg8_iff.1 hb, fun _ _ => by omega, fun _ => by omega, fun _ => by omega⟩
    · rename_i q2
      split at hb
      · rename_i q; simp at hb; exact ⟨by omega, hA.2, hA.1, fun _ => by omega, fun _ _ => by omega, fun _ _ => hb, fun _ => by omega, fun _ => by omega⟩
      · rename_i q3
        split at hb
        · rename_i q; simp at hb; exact ⟨by omega, hA.2, hA.1, fun _ => by omega, fun _ _ => by omega, fun _ _ => by omega, fun _ => hb, fun _ => by omega⟩
        · rename_i q4
          split at hb
          · rename_i q; simp at hb; exact ⟨by omega, hA.2, hA.1, fun _ => by omega, fun _ _ => by omega, fun _ _ => by omega, fun _ => by omega, fun _ => hb⟩
          · simp at hb
theorem val_n {p : List In} {s : St} (h : Ok p s) {x : In} {n : Int} (hx : good n x = true) : n32 (val s x) = true := by
  obtain ⟨_, _, _, h1, _⟩ := good_cases hx
  unfold val
  split
  · exact h1 ‹_›
  · split
    · exact reg_n h _
    · split
      · exact ar_n32 _
      · split <;> exact ar_n32 _
theorem put_ok {p : List In} {s : St} (h : Ok p s) {x : In} {n : Int} (hx : good n x = true) : (put s x).length = 8 ∧ ∀ y ∈ put s x, n32 y = true := by
  unfold put
  split
  · exact ⟨by rw [List.length_set]; exact h.len, set_n h.n _ (val_n h hx)⟩
  · exact ⟨h.len, h.n⟩
/-- what is done next leaves a state that may be run -/
theorem act_go {p : List In} {s s' : St} {o : List Em} (hp : chk p = 0) (h : Ok p s) (ha : act p s = .go s' o) : Ok p s' ∧ o.length ≤ 1 := by
  unfold act at ha
  split at ha
  · cases ha
  · rename_i hh
    split at ha
    · cases ha; exact ⟨⟨h.lo, h.hi, h.len, h.n, by show ¬ (s.halts = true ∧ _); intro q; exact hh (.inl q.1)⟩, by simp⟩
    · rename_i hpc
      have hg := h.good hp hpc
      have hb := in_p h hpc
      have gc := good_cases hg
      generalize hx : p.getD s.pc.toNat zIn = x at *
      have hlt : s.pc + 1 ≤ p.length := by have := h.hi; omega
      have hl0 : 0 ≤ s.pc + 1 := by have := h.lo; omega
      split at ha
      · cases ha; exact ⟨⟨h.lo, h.hi, h.len, h.n, by show ¬ (_ ∧ s.fault = true); intro q; exact hh (.inr q.2)⟩, by simp⟩
      · split at ha
        · rename_i hj
          cases ha
          have hb2 : 6 ≤ x.1 ∧ x.1 ≤ 8 := by
            simp only [jmp, Bool.or_eq_true, Bool.and_eq_true, decide_eq_true_eq] at hj
            rcases hj with (q | q) | q <;> omega
          have := gc.2.2.2.2.2.1 hb2.1 hb2.2
          exact ⟨⟨this.1, this.2, h.len, h.n, h.hf⟩, by simp⟩
        · split at ha
          · cases ha
          · split at ha
            · cases ha; exact ⟨⟨hl0, hlt, h.len, h.n, h.hf⟩, by simp⟩
            · cases ha
              obtain ⟨q1, q2⟩ := put_ok h hg
              exact ⟨⟨hl0, hlt, q1, q2, h.hf⟩, by simp⟩
theorem act_take {p : List In} {s : St} {k : Int → St} (hp : chk p = 0) (h : Ok p s) (ha : act p s = .take k) (n : Int) (hn : n32 n = true) : Ok p (k n) := by
  unfold act at ha
  split at ha
  · cases ha
  · split at ha
    · cases ha
    · rename_i hpc
      have hb := in_p h hpc
      split at ha
      · cases ha
      · split at ha
        · cases ha
        · split at ha
          · cases ha
            exact ⟨by show 0 ≤ s.pc + 1; have := h.lo; omega, by show s.pc + 1 ≤ p.length; have := h.hi; omega, by show (List.set _ _ _).length = 8; rw [List.length_set]; exact h.len, set_n h.n _ hn, h.hf⟩
          · split at ha <;> cases ha
theorem run_ok {p : List In} (hp : chk p = 0) : ∀ (n : Nat) (s : St) (i : List Int), Ok p s → (∀ x ∈ i, n32 x = true) → Ok p (run (act p) n s i).s ∧ (run (act p) n s i).out.length ≤ (run (act p) n s i).used := by
  intro n
  induction n with
  | zero => intro s i h _; exact ⟨h, Nat.le_refl _⟩
  | succ n ih =>
    intro s i h hi
    simp only [run]
    cases ha : act p s with
    | stop => exact ⟨h, Nat.le_refl _⟩
    | go s' o =>
      obtain ⟨h1, h2⟩ := act_go hp h ha
      obtain ⟨h3, h4⟩ := ih s' i h1 hi
      refine ⟨h3, ?_⟩
      simp only [Ran.then, List.length_append]; omega
    | take k =>
      cases i with
      | nil => exact ⟨h, Nat.le_refl _⟩
      | cons x r =>
        obtain ⟨h3, h4⟩ := ih (k x) r (act_take hp h ha x (hi x (List.mem_cons_self ..))) (fun y hy => hi y (List.mem_cons_of_mem _ hy))
        refine ⟨h3, ?_⟩
        simp only [Ran.then, List.length_append, List.length_nil]; omega
/-! one step after the other -/
theorem run_next {p : List In} {s : St} {i : List Int} (n : Nat) : run (act p) (n + 1) s i = (run (act p) n s i).then (run (act p) 1 (run (act p) n s i).s (i.drop (run (act p) n s i).took)) := run_cut n 1 s i
/-- does it go on? -/
def goes (p : List In) (s : St) (left : Bool) : Bool := !(s.halts || s.fault) && (decide (s.pc = p.length) || decide ((p.getD s.pc.toNat zIn).1 ≠ 9) || left)
theorem jmp_not {s : St} {x : In} (h : x.1 = 9) : jmp s x = false := by simp [jmp, h]
theorem goes_no {p : List In} {s : St} {i : List Int} (h : goes p s (decide (0 < i.length)) = false) (m : Nat) : run (act p) m s i = ⟨s, [], 0, 0⟩ := by
  simp only [goes, Bool.and_eq_false_iff, Bool.not_eq_false', Bool.or_eq_true, Bool.or_eq_false_iff, decide_eq_false_iff_not] at h
  rcases h with h | ⟨⟨h1, h2⟩, h3⟩
  · exact run_stop (by unfold act; rw [if_pos h])
  · have h9 : (p.getD s.pc.toNat zIn).1 = 9 := by simpa using h2
    have : i = [] := List.length_eq_zero_iff.1 (by omega)
    subst this
    by_cases hh : s.halts = true ∨ s.fault = true
    · exact run_stop (by unfold act; rw [if_pos hh])
    · exact run_wait (k := fun n => ⟨s.pc + 1, s.regs.set (p.getD s.pc.toNat zIn).2.1.toNat n, s.halts, s.fault⟩) (by unfold act; rw [if_neg hh, if_neg h1, if_neg (by omega), if_neg (by rw [jmp_not h9]; simp), if_pos h9])
/-- what one step does, when it goes on -/
def stp (p : List In) (s : St) (x : Int) : Ran St Em := match act p s with
  | .stop => ⟨s, [], 0, 0⟩
  | .go s' o => ⟨s', o, 0, 1⟩
  | .take k => ⟨k x, [], 1, 1⟩
theorem goes_yes {p : List In} {s : St} {i : List Int} (h : goes p s (decide (0 < i.length)) = true) : run (act p) 1 s i = stp p s (i.getD 0 0) ∧ (stp p s (i.getD 0 0)).used = 1 := by
  simp only [goes, Bool.and_eq_true, Bool.not_eq_true', Bool.or_eq_false_iff, Bool.or_eq_true, decide_eq_true_eq] at h
  obtain ⟨⟨a, b⟩, h⟩ := h
  unfold stp
  simp only [run]
  cases ha : act p s with
  | stop =>
    exfalso
    unfold act at ha
    rw [if_neg (by simp [a, b])] at ha
    repeat' split at ha
    all_goals cases ha
  | go s' o => simp [Ran.then]
  | take k =>
    have h9 : s.pc ≠ p.length ∧ (p.getD s.pc.toNat zIn).1 = 9 := by
      unfold act at ha
      rw [if_neg (by simp [a, b])] at ha
      split at ha
      · cases ha
      · rename_i q
        split at ha
        · cases ha
        · split at ha
          · cases ha
          · split at ha
            · exact ⟨q, ‹_›⟩
            · split at ha <;> cases ha
    have hl : 0 < i.length := by
      rcases h with (h | h) | h
      · exact absurd h h9.1
      · exact absurd h9.2 h
      · exact h
    cases i with
    | nil => simp at hl
    | cons x r => simp [Ran.then, List.getD]
end VmP
end Go.Proofs.Ytceflfdpbgnfjaa
