/- Ports, as plain mathematics: what they are, what is done at them. -/
import Derived.Test.YtllfpbngfkimlaaSpanM
set_option linter.unusedVariables false
namespace Go.Proofs.Ytllfpbngfkimlaa
namespace PrtM
abbrev e0 : ByteArray := ⟨#[]⟩
abbrev big : Int := 1099511627776
structure Pt where
  kind : Int
  size : Int
  room : Int
  fresh : Int
  texts : List ByteArray
  tm : Int
/-- an op: its kind, now, its text -/
abbrev Op := Int × Int × ByteArray
/-- what is told of it -/
abbrev An := ByteArray × Bool × Int
abbrev zOp : Op := (0, 0, e0)
abbrev zAn : An := (e0, false, 0)
abbrev zPt : Pt := ⟨0, 0, 0, 0, [], 0⟩
def okArg (p : Pt) : Prop := (p.kind = 1 ∨ p.kind = 2) ∧ (1 ≤ p.size ∧ p.size ≤ 4096) ∧ (p.kind = 1 → p.room = 1 ∧ 0 ≤ p.fresh ∧ p.fresh ≤ big) ∧ (p.kind = 2 → 1 ≤ p.room ∧ p.room ≤ 100 ∧ p.fresh = 0)
def okForm (p : Pt) : Prop := ((p.texts.length : Int) ≤ p.room ∧ ∀ s ∈ p.texts, (s.size : Int) ≤ p.size) ∧ (0 ≤ p.tm ∧ p.tm ≤ big) ∧ (p.tm ≠ 0 → p.texts ≠ [] ∧ p.kind = 1)
instance (p : Pt) : Decidable (okArg p) := by unfold okArg; infer_instance
instance (p : Pt) : Decidable (okForm p) := by unfold okForm; infer_instance
def chk (p : Pt) : Int := if okArg p then (if okForm p then 0 else 4) else 1
theorem chk_arg {p : Pt} (h : ¬ okArg p) : chk p = 1 := by unfold chk; rw [if_neg h]
theorem chk_form {p : Pt} (h : okArg p) (k : ¬ okForm p) : chk p = 4 := by unfold chk; rw [if_pos h, if_neg k]
theorem chk_ok {p : Pt} (h : okArg p) (k : okForm p) : chk p = 0 := by unfold chk; rw [if_pos h, if_pos k]
theorem chk_zero {p : Pt} (h : chk p = 0) : okArg p ∧ okForm p := by
  unfold chk at h
  split at h
  · split at h
    · exact ⟨‹_›, ‹_›⟩
    · simp at h
  · simp at h
/-- Write's error -/
def wrE (p : Pt) (s : ByteArray) (now : Int) : Int :=
  if chk p ≠ 0 then chk p else if ¬ (p.tm ≤ now ∧ now ≤ big) then 1 else if p.size < (s.size : Int) then 2 else if p.kind = 2 ∧ (p.texts.length : Int) = p.room then 6 else 0
def wrP (p : Pt) (s : ByteArray) (now : Int) : Pt := if p.kind = 1 then { p with texts := [s], tm := now } else { p with texts := p.texts ++ [s] }
/-- Read's -/
def rdE (p : Pt) (now : Int) : Int :=
  if chk p ≠ 0 then chk p else if ¬ (p.tm ≤ now ∧ now ≤ big) then 1 else if p.texts = [] then 7 else 0
def rdP (p : Pt) : Pt := if p.kind = 1 then p else { p with texts := p.texts.drop 1 }
def rdT (p : Pt) : ByteArray := p.texts.getD 0 e0
def rdF (p : Pt) (now : Int) : Bool := if p.kind = 1 then decide (now - p.tm ≤ p.fresh) else true
/-- what an op tells -/
def doA (p : Pt) (o : Op) : An :=
  if o.1 = 1 then (e0, false, wrE p o.2.2 o.2.1)
  else if o.1 = 2 then (if rdE p o.2.1 = 0 then (rdT p, rdF p o.2.1, 0) else (e0, false, rdE p o.2.1))
  else (e0, false, 1)
def doP (p : Pt) (o : Op) : Pt :=
  if (doA p o).2.2 = 0 then (if o.1 = 1 then wrP p o.2.2 o.2.1 else rdP p) else p
theorem doP_no {p : Pt} {o : Op} (h : (doA p o).2.2 ≠ 0) : doP p o = p := by unfold doP; rw [if_neg h]
def fin (p : Pt) (l : List Op) : Pt := l.foldl doP p
def told : Pt → List Op → List An
  | _, [] => []
  | p, o :: r => doA p o :: told (doP p o) r
theorem fin_snoc (p : Pt) (l : List Op) (o : Op) : fin p (l ++ [o]) = doP (fin p l) o := by simp [fin, List.foldl_append]
theorem told_snoc (l : List Op) (o : Op) : ∀ p, told p (l ++ [o]) = told p l ++ [doA (fin p l) o] := by
  induction l with
  | nil => intro p; rfl
  | cons x r ih => intro p; simp only [List.cons_append, told, ih]; rfl
theorem told_length (l : List Op) : ∀ p, (told p l).length = l.length := by
  induction l with
  | nil => intro p; rfl
  | cons x r ih => intro p; simp [told, ih]
theorem take_get (l : List Op) (k : Nat) (h : k < l.length) : l.take (k + 1) = l.take k ++ [l.getD k zOp] := by
  rw [List.take_succ_eq_append_getElem h]; simp [List.getD, h]
theorem fin_step (p : Pt) (l : List Op) (k : Nat) (h : k < l.length) : fin p (l.take (k + 1)) = doP (fin p (l.take k)) (l.getD k zOp) := by rw [take_get l k h, fin_snoc]
theorem told_step (p : Pt) (l : List Op) (k : Nat) (h : k < l.length) : told p (l.take (k + 1)) = told p (l.take k) ++ [doA (fin p (l.take k)) (l.getD k zOp)] := by rw [take_get l k h, told_snoc]
/-- what is told of the k-th op -/
theorem told_at (p : Pt) (l : List Op) (k : Nat) (h : k < l.length) : (told p l).getD k zAn = doA (fin p (l.take k)) (l.getD k zOp) := by
  conv => lhs; rw [← List.take_append_drop (k + 1) l]
  have e : ∀ (a b : List Op) (q : Pt), told q (a ++ b) = told q a ++ told (fin q a) b := by
    intro a
    induction a with
    | nil => intro b q; rfl
    | cons x r ih => intro b q; simp only [List.cons_append, told, ih]; rfl
  rw [e, told_step p l k h]
  have hl : (told p (l.take k)).length = k := by rw [told_length, List.length_take]; omega
  simp [List.getD, hl]
/-- a right port stays right -/
theorem doP_ok {p : Pt} (h : chk p = 0) (o : Op) : chk (doP p o) = 0 := by
  by_cases h0 : (doA p o).2.2 = 0
  · unfold doP
    rw [if_pos h0]
    obtain ⟨ha, hf⟩ := chk_zero h
    obtain ⟨k12, hs, hk1, hk2⟩ := ha
    obtain ⟨⟨f1, f2⟩, f3, f4⟩ := hf
    by_cases c : o.1 = 1
    · rw [if_pos c]
      unfold doA at h0
      rw [if_pos c] at h0
      simp only [wrE, h] at h0
      have n1 : p.tm ≤ o.2.1 ∧ o.2.1 ≤ big := by
        refine Classical.byContradiction fun q => ?_
        rw [if_neg (by simp), if_pos q] at h0
        simp at h0
      rw [if_neg (by simp), if_neg (by simpa using n1)] at h0
      have n2 : ¬ p.size < (o.2.2.size : Int) := by
        intro q
        rw [if_pos q] at h0
        simp at h0
      rw [if_neg n2] at h0
      unfold wrP
      by_cases d : p.kind = 1
      · rw [if_pos d]
        obtain ⟨r1, r2, r3⟩ := hk1 d
        refine chk_ok ⟨k12, hs, hk1, hk2⟩ ⟨⟨by simp [r1], ?_⟩, by simp only; omega, fun _ => ⟨by simp, d⟩⟩
        intro s hs'
        simp at hs'
        subst hs'
        simp only; omega
      · rw [if_neg d]
        have d2 : p.kind = 2 := by rcases k12 with q | q <;> omega
        obtain ⟨r1, r2, r3⟩ := hk2 d2
        have n3 : ¬ (p.kind = 2 ∧ (p.texts.length : Int) = p.room) := by
          intro q
          rw [if_pos q] at h0
          simp at h0
        have n4 : ¬ (p.texts.length : Int) = p.room := fun q => n3 ⟨d2, q⟩
        refine chk_ok ⟨k12, hs, hk1, hk2⟩ ⟨⟨by simp only [List.length_append, List.length_singleton]; omega, ?_⟩, f3, fun q => absurd (f4 q).2 d⟩
        intro s hs'
        simp only [List.mem_append, List.mem_singleton] at hs'
        rcases hs' with hs' | rfl
        · exact f2 s hs'
        · simp only; omega
    · rw [if_neg c]
      unfold rdP
      by_cases d : p.kind = 1
      · rw [if_pos d]; exact h
      · rw [if_neg d]
        refine chk_ok ⟨k12, hs, hk1, hk2⟩ ⟨⟨by simp only [List.length_drop]; omega, fun s hs' => f2 s (List.mem_of_mem_drop hs')⟩, f3, fun q => absurd (f4 q).2 d⟩
  · rw [doP_no h0]; exact h
theorem fin_ok {p : Pt} (h : chk p = 0) (l : List Op) : chk (fin p l) = 0 := by
  unfold fin
  induction l generalizing p with
  | nil => exact h
  | cons o r ih => exact ih (doP_ok h o)
theorem doP_same (p : Pt) (o : Op) : (doP p o).kind = p.kind ∧ (doP p o).size = p.size ∧ (doP p o).room = p.room ∧ (doP p o).fresh = p.fresh := by
  unfold doP wrP rdP
  (repeat' split) <;> exact ⟨rfl, rfl, rfl, rfl⟩
theorem fin_same (l : List Op) : ∀ p, (fin p l).kind = p.kind ∧ (fin p l).size = p.size ∧ (fin p l).room = p.room ∧ (fin p l).fresh = p.fresh := by
  induction l with
  | nil => intro p; exact ⟨rfl, rfl, rfl, rfl⟩
  | cons o r ih =>
    intro p
    obtain ⟨a, b, c, d⟩ := ih (doP p o)
    obtain ⟨a', b', c', d'⟩ := doP_same p o
    exact ⟨a.trans a', b.trans b', c.trans c', d.trans d'⟩
/-- what a write or a read that is told no error is of -/
theorem wrE_zero {p : Pt} {s : ByteArray} {now : Int} (h : wrE p s now = 0) : chk p = 0 ∧ (p.tm ≤ now ∧ now ≤ big) ∧ (s.size : Int) ≤ p.size ∧ ¬ (p.kind = 2 ∧ (p.texts.length : Int) = p.room) := by
  unfold wrE at h
  split at h
  · rename_i q; exact absurd h q
  · rename_i q
    have q' : chk p = 0 := by simpa using q
    split at h
    · simp at h
    · split at h
      · simp at h
      · split at h
        · simp at h
        · rename_i a b c
          exact ⟨q', by simpa using a, by omega, c⟩
theorem rdE_zero {p : Pt} {now : Int} (h : rdE p now = 0) : chk p = 0 ∧ (p.tm ≤ now ∧ now ≤ big) ∧ p.texts ≠ [] := by
  unfold rdE at h
  split at h
  · rename_i q; exact absurd h q
  · rename_i q
    have q' : chk p = 0 := by simpa using q
    split at h
    · simp at h
    · split at h
      · simp at h
      · rename_i a b
        exact ⟨q', by simpa using a, b⟩
end PrtM
end Go.Proofs.Ytllfpbngfkimlaa
