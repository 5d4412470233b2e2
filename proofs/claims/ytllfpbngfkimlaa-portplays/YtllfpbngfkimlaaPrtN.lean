/- Ports: what the laws want, as plain mathematics. -/
import Derived.Test.YtllfpbngfkimlaaPrtM
set_option linter.unusedVariables false
namespace Go.Proofs.Ytllfpbngfkimlaa
namespace PrtM
theorem doA_wr {q : Pt} {k now : Int} {s : ByteArray} (hk : k = 1) : doA q (k, now, s) = (e0, false, wrE q s now) := by unfold doA; rw [if_pos hk]
theorem doA_rd {q : Pt} {k now : Int} {s : ByteArray} (hk : k = 2) (h : rdE q now = 0) : doA q (k, now, s) = (rdT q, rdF q now, 0) := by unfold doA; rw [if_neg (by simp only; omega), if_pos hk, if_pos h]
theorem doA_rd_no {q : Pt} {k now : Int} {s : ByteArray} (hk : k = 2) (h : rdE q now ≠ 0) : doA q (k, now, s) = (e0, false, rdE q now) := by unfold doA; rw [if_neg (by simp only; omega), if_pos hk, if_neg h]
theorem doA_no {q : Pt} {k now : Int} {s : ByteArray} (h1 : k ≠ 1) (h2 : k ≠ 2) : doA q (k, now, s) = (e0, false, 1) := by unfold doA; rw [if_neg h1, if_neg h2]
/-- who is told no error has written or read -/
theorem err_kind {q : Pt} {k now : Int} {s : ByteArray} (h : (doA q (k, now, s)).2.2 = 0) : k = 1 ∨ k = 2 := by
  by_cases h1 : k = 1
  · exact .inl h1
  · by_cases h2 : k = 2
    · exact .inr h2
    · rw [doA_no h1 h2] at h; simp at h
theorem doP_wr {q : Pt} {now : Int} {s : ByteArray} (h : (doA q (1, now, s)).2.2 = 0) : doP q (1, now, s) = wrP q s now := by unfold doP; rw [if_pos h, if_pos rfl]
theorem doP_rd {q : Pt} {now : Int} {s : ByteArray} (h : (doA q (2, now, s)).2.2 = 0) : doP q (2, now, s) = rdP q := by unfold doP; rw [if_pos h, if_neg (by simp)]
theorem rd_err {q : Pt} {now : Int} {s : ByteArray} (h : (doA q (2, now, s)).2.2 = 0) : rdE q now = 0 := by
  by_cases h0 : rdE q now = 0
  · exact h0
  · rw [doA_rd_no rfl h0] at h; exact absurd h h0
theorem rd_err_no {q : Pt} {now : Int} {s : ByteArray} (h : (doA q (2, now, s)).2.2 ≠ 0) : rdE q now ≠ 0 := fun h0 => h (by rw [doA_rd rfl h0])
/-! samples -/
/-- what was written last, and when (-1: never) -/
def LastI (q : Pt) (last : ByteArray) (tm : Int) : Prop := (tm = -1 ∧ q.texts = [] ∧ q.tm = 0 ∧ last = e0) ∨ (q.texts = [last] ∧ q.tm = tm ∧ 0 ≤ tm ∧ tm ≤ big)
theorem LastI.wr {q : Pt} {last s : ByteArray} {tm now : Int} (h : LastI q last tm) (hk : q.kind = 1) (h0 : (doA q (1, now, s)).2.2 = 0) : LastI (doP q (1, now, s)) s now := by
  rw [doP_wr h0]
  rw [doA_wr rfl] at h0
  obtain ⟨c, ⟨n1, n2⟩, _, _⟩ := wrE_zero h0
  have t0 := (chk_zero c).2.2.1.1
  unfold wrP
  rw [if_pos hk]
  exact .inr ⟨rfl, rfl, by omega, n2⟩
theorem LastI.rd {q : Pt} {last s : ByteArray} {tm now : Int} (h : LastI q last tm) (hk : q.kind = 1) (h0 : (doA q (2, now, s)).2.2 = 0) : doP q (2, now, s) = q ∧ 0 ≤ tm ∧ (doA q (2, now, s)).1 = last ∧ (doA q (2, now, s)).2.1 = decide (now - tm ≤ q.fresh) ∧ tm ≤ now ∧ now ≤ big := by
  have h1 := rd_err h0
  obtain ⟨c, ⟨n1, n2⟩, n3⟩ := rdE_zero h1
  rw [doP_rd h0, doA_rd rfl h1]
  rcases h with ⟨_, e, _⟩ | ⟨e1, e2, e3, e4⟩
  · exact absurd e n3
  · refine ⟨by unfold rdP; rw [if_pos hk], e3, by unfold rdT; rw [e1]; rfl, ?_, by omega, n2⟩
    show rdF q now = _
    unfold rdF
    rw [if_pos hk, e2]
theorem LastI.none {q : Pt} {last s : ByteArray} {tm now : Int} (h : LastI q last tm) (c : chk q = 0) (h0 : (doA q (2, now, s)).2.2 ≠ 0) : ¬ (max tm 0 ≤ now ∧ now ≤ big ∧ 0 ≤ tm) := by
  rintro ⟨a1, a2, a3⟩
  have h1 := rd_err_no h0
  rcases h with ⟨e, _⟩ | ⟨e1, e2, e3, e4⟩
  · omega
  · apply h1
    unfold rdE
    rw [if_neg (by simp [c]), if_neg (by simp; omega), if_neg (by rw [e1]; simp)]
/-! queues -/
theorem que_wr {q : Pt} {now : Int} {s : ByteArray} (hk : q.kind = 2) (h0 : (doA q (1, now, s)).2.2 = 0) : (doP q (1, now, s)).texts = q.texts ++ [s] := by
  rw [doP_wr h0]
  unfold wrP
  rw [if_neg (by omega)]
theorem que_rd {q : Pt} {now : Int} {s : ByteArray} (hk : q.kind = 2) (h0 : (doA q (2, now, s)).2.2 = 0) : q.texts = (doA q (2, now, s)).1 :: (doP q (2, now, s)).texts := by
  have h1 := rd_err h0
  obtain ⟨c, _, n3⟩ := rdE_zero h1
  rw [doP_rd h0, doA_rd rfl h1]
  unfold rdP rdT
  rw [if_neg (by omega)]
  cases hq : q.texts with
  | nil => exact absurd hq n3
  | cons x r => rfl
theorem room_le {q : Pt} (h : chk q = 0) : (q.texts.length : Int) ≤ q.room := (chk_zero h).2.1.1
/-! what is refused -/
/-- the ops that are told no error, and what is told of them -/
def goodO (p : Pt) (l : List Op) (k : Nat) : List Op := match k with
  | 0 => []
  | k + 1 => if (doA (fin p (l.take k)) (l.getD k zOp)).2.2 = 0 then goodO p l k ++ [l.getD k zOp] else goodO p l k
def goodA (p : Pt) (l : List Op) (k : Nat) : List An := match k with
  | 0 => []
  | k + 1 => if (doA (fin p (l.take k)) (l.getD k zOp)).2.2 = 0 then goodA p l k ++ [doA (fin p (l.take k)) (l.getD k zOp)] else goodA p l k
theorem good_same (p : Pt) (l : List Op) : ∀ k, k ≤ l.length → fin p (goodO p l k) = fin p (l.take k) ∧ told p (goodO p l k) = goodA p l k ∧ (goodO p l k).length ≤ k
  | 0, _ => ⟨by simp [goodO], by simp [goodO, goodA, told], by simp [goodO]⟩
  | k + 1, h => by
    obtain ⟨h1, h2, h3⟩ := good_same p l k (by omega)
    unfold goodO goodA
    rw [fin_step p l k (by omega)]
    by_cases h0 : (doA (fin p (l.take k)) (l.getD k zOp)).2.2 = 0
    · rw [if_pos h0, if_pos h0, fin_snoc, told_snoc, h1, h2]
      exact ⟨rfl, rfl, by simp; omega⟩
    · rw [if_neg h0, if_neg h0, doP_no h0]
      exact ⟨h1, h2, by omega⟩
theorem goodA_length (p : Pt) (l : List Op) : ∀ k, k ≤ l.length → (goodA p l k).length ≤ k
  | 0, _ => by simp [goodA]
  | k + 1, h => by
    have := goodA_length p l k (by omega)
    unfold goodA
    split
    · simp; omega
    · omega
end PrtM
end Go.Proofs.Ytllfpbngfkimlaa
