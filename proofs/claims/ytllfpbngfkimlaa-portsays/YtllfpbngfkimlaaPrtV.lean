/- The document's own answers about ports: PortDone whole. -/
import Derived.Test.YtllfpbngfkimlaaPrtU2
import Derived.Test.YtllfpbngfkimlaaPrtU3
import Derived.Test.YtllfpbngfkimlaaPrtU4
set_option linter.unusedVariables false
namespace Go.Proofs.Ytllfpbngfkimlaa
open Go.RowKit
open Go.Shelf Go.Sort
open SpanM SpanC IntsC
namespace PortC
open PrtM
/-- where the texts lie: in a block of the call's own, or in that of those that came in -/
def BK (v u : Value) (lo hi : Nat) : Prop := ∀ b o n c, u = .slice (some ⟨b, o, none⟩) n c → (lo ≤ b ∧ b < hi) ∨ ∃ o' n' c', v = .slice (some ⟨b, o', none⟩) n' c'
theorem BK.same (v : Value) (lo hi : Nat) : BK v v lo hi := fun b o n c e => .inr ⟨o, n, c, e⟩
theorem BK.own {w : World} {lo : Nat} {v u : Value} {l : List ByteArray} (h : OwnS w lo u l) : BK v u lo w.heap.size := fun b o n c e => by
  subst e
  exact .inl (h.lt b rfl)
theorem Done_any (p : Pt) (o : PrtM.Op) (v : Value) (w : World) (h : chk p = 0) (ht : TX w v p.texts) :
    Calls Try.prog 20 #[vP p v, .agg #[.int .i64 o.1, .int .i64 o.2.1, .string o.2.2]] w fun e w' => (∃ u, e = .returned (.tuple #[vP (doP p o) u, .agg #[.string (doA p o).1, .bool (doA p o).2.1, .int .i64 (doA p o).2.2]]) ∧ TX w' u (doP p o).texts ∧ BK v u w.heap.size w'.heap.size) ∧ Below w.heap.size w w' := by
  obtain ⟨k, now, s⟩ := o
  obtain ⟨a, c, rfl, hr, hn, hc⟩ := ht
  have no : ∀ {E : Int} {e : Ending} {w' : World}, doA p (k, now, s) = (e0, false, E) → E ≠ 0 → e = .returned (.tuple #[vP p (.slice a p.texts.length c), .agg #[.string e0, .bool false, .int .i64 E]]) ∧ Below w.heap.size w w' → (∃ u, e = .returned (.tuple #[vP (doP p (k, now, s)) u, .agg #[.string (doA p (k, now, s)).1, .bool (doA p (k, now, s)).2.1, .int .i64 (doA p (k, now, s)).2.2]]) ∧ TX w' u (doP p (k, now, s)).texts ∧ BK (.slice a p.texts.length c) u w.heap.size w'.heap.size) ∧ Below w.heap.size w w' := by
    intro E e w' hA h0 q
    have hP : doP p (k, now, s) = p := doP_no (by rw [hA]; exact h0)
    rw [hA, hP]
    exact ⟨⟨_, q.1, ⟨a, c, rfl, hr.below q.2 (Nat.le_refl _), hn, hc⟩, BK.same _ _ _⟩, q.2⟩
  obtain ⟨⟨k12, hs, hk1, hk2⟩, ⟨f1, f2⟩, f3, f4⟩ := chk_zero h
  have hl : p.texts.length ≤ 1000 := by
    rcases k12 with q | q
    · have := (hk1 q).1; omega
    · have := (hk2 q).2.1; omega
  by_cases hk : 1 ≤ k ∧ k ≤ 2
  · by_cases hw : p.tm ≤ now ∧ now ≤ 1099511627776
    · by_cases k1 : k = 1
      · subst k1
        have e1 := wrE_of (s := s) h hw
        have hA : doA p (1, now, s) = (e0, false, wrE p s now) := by unfold doA; rw [if_pos rfl]
        by_cases hz : p.size < (s.size : Int)
        · rw [if_pos hz] at e1
          rw [e1] at hA
          exact (pd_large p.kind p.size p.room p.fresh p.tm now a p.texts.length c s w hw hz).mono fun e w' q => no hA (by decide) q
        · rw [if_neg hz] at e1
          rcases k12 with q | q
          · rw [if_neg (by intro z; omega)] at e1
            rw [e1] at hA
            have hP : doP p (1, now, s) = { p with texts := [s], tm := now } := by rw [doP, hA, if_pos rfl, if_pos rfl]; unfold wrP; rw [if_pos q]
            rw [hA, hP]
            obtain ⟨kd, sz, rm, fr, l, tm⟩ := p
            simp only at q
            subst q
            refine (pd_sam_wr sz rm fr tm now a c l s w hw hz).mono fun e w' q => ⟨?_, q.2⟩
            obtain ⟨u, q1, q2⟩ := q.1
            exact ⟨u, q1, TX.of_own q2, BK.own q2⟩
          · by_cases hf : (p.texts.length : Int) = p.room
            · rw [if_pos ⟨q, hf⟩] at e1
              rw [e1] at hA
              obtain ⟨kd, sz, rm, fr, l, tm⟩ := p
              simp only at q
              subst q
              exact (pd_full sz rm fr tm now a l.length c s w hw hz (by simpa using hf)).mono fun e w' q => no hA (by decide) q
            · rw [if_neg (fun z => hf z.2)] at e1
              rw [e1] at hA
              have hP : doP p (1, now, s) = { p with texts := p.texts ++ [s] } := by rw [doP, hA, if_pos rfl, if_pos rfl]; unfold wrP; rw [if_neg (by omega)]
              rw [hA, hP]
              obtain ⟨kd, sz, rm, fr, l, tm⟩ := p
              simp only at q
              subst q
              refine (pd_que_wr sz rm fr tm now a c l s w hw hz (by simpa using hf) hr hn hl).mono fun e w' q => ⟨?_, q.2⟩
              obtain ⟨u, q1, q2⟩ := q.1
              exact ⟨u, q1, TX.of_own q2, BK.own q2⟩
      · have k2 : k = 2 := by omega
        subst k2
        have e1 : rdE p now = if p.texts = [] then 7 else 0 := by
          unfold rdE
          rw [if_neg (by simp [h]), if_neg (by simp; exact hw)]
        by_cases hz : p.texts = []
        · rw [if_pos hz] at e1
          have hA : doA p (2, now, s) = (e0, false, 7) := by unfold doA; rw [if_neg (by simp), if_pos rfl, if_neg (by rw [e1]; decide), e1]
          exact (pd_none p.kind p.size p.room p.fresh p.tm now a p.texts.length c s w hw (by simp [hz])).mono fun e w' q => no hA (by decide) q
        · rw [if_neg hz] at e1
          have hA : doA p (2, now, s) = (rdT p, rdF p now, 0) := by unfold doA; rw [if_neg (by simp), if_pos rfl, if_pos e1]
          have hP : doP p (2, now, s) = rdP p := by unfold doP; rw [hA, if_pos rfl, if_neg (by simp)]
          have h0 : 0 < p.texts.length := List.length_pos_iff.2 hz
          rw [hA, hP]
          rcases k12 with q | q
          · have g1 : rdP p = p := by unfold rdP; rw [if_pos q]
            have g2 : rdF p now = decide (now - p.tm ≤ p.fresh) := by unfold rdF; rw [if_pos q]
            rw [g1, g2]
            have hfr := (hk1 q).2
            obtain ⟨kd, sz, rm, fr, l, tm⟩ := p
            simp only at q
            subst q
            refine (pd_sam_rd sz rm fr tm now a c l s w hw ⟨f3.1, hfr.1, hfr.2⟩ hr h0).mono fun e w' q => ⟨?_, q.2⟩
            obtain ⟨u, q1, rfl⟩ := q.1
            exact ⟨_, q1, ⟨a, c, rfl, hr.below q.2 (Nat.le_refl _), hn, hc⟩, BK.same _ _ _⟩
          · have g1 : rdP p = { p with texts := p.texts.drop 1 } := by unfold rdP; rw [if_neg (by omega)]
            have g2 : rdF p now = true := by unfold rdF; rw [if_neg (by omega)]
            rw [g1, g2]
            obtain ⟨kd, sz, rm, fr, l, tm⟩ := p
            simp only at q
            subst q
            refine (pd_que_rd sz rm fr tm now a c l s w hw hr h0 hc).mono fun e w' q => ⟨?_, q.2⟩
            obtain ⟨u, q1, q2, q3⟩ := q.1
            exact ⟨u, q1, q2, fun b o n' c' e => .inr (q3 b o n' c' e)⟩
    · by_cases k1 : k = 1
      · subst k1
        have hA : doA p (1, now, s) = (e0, false, 1) := by unfold doA wrE; rw [if_pos rfl]; simp only; rw [if_neg (by simp [h]), if_pos (by exact hw)]
        exact (pd_now p.kind 1 p.size p.room p.fresh p.tm now a p.texts.length c s w hk hw).mono fun e w' q => no hA (by decide) q
      · have k2 : k = 2 := by omega
        subst k2
        have e1 : rdE p now = 1 := by unfold rdE; rw [if_neg (by simp [h]), if_pos (by exact hw)]
        have hA : doA p (2, now, s) = (e0, false, 1) := by unfold doA; rw [if_neg (by simp), if_pos rfl, if_neg (by rw [e1]; decide), e1]
        exact (pd_now p.kind 2 p.size p.room p.fresh p.tm now a p.texts.length c s w hk hw).mono fun e w' q => no hA (by decide) q
  · have hA : doA p (k, now, s) = (e0, false, 1) := by unfold doA; rw [if_neg (by intro z; simp only at z; omega), if_neg (by intro z; simp only at z; omega)]
    exact (pd_kind p.kind k p.size p.room p.fresh p.tm now a p.texts.length c s w hk).mono fun e w' q => no hA (by decide) q
end PortC
end Go.Proofs.Ytllfpbngfkimlaa
