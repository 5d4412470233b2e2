/- Package lock: choose. -/
import Derived.Test.YtllfpbngfkimlaaLkE
set_option linter.unusedVariables false
namespace Go.Proofs.Ytllfpbngfkimlaa
open Go.RowKit
open Go.Shelf Go.Sort
open SpanM SpanC IntsC
open RowsO hiding Wk
namespace LockC
open LockM
open NumC (Row)
/-- what is known of one worker -/
structure Each (C : Nat) (W : World) (l : List LockM.Wk) (ran : Nat → Nat) (i : Nat) (x : Wr) : Prop where
  num : x.num = i
  came : x.came = (l.getD i (0, [])).1
  n : x.n = (acts l i).length
  far : Far C W x.a (acts l i)
  at_ : At (acts l i) (ran i) x.next x.ran
/-- a site, as far as its works have run -/
structure St (W : World) (C sb g cap : Nat) (l : List LockM.Wk) (own : List Int) (ws : List Wr) (ran : Nat → Nat) : Prop where
  box : ∃ a c, W.cell? ⟨sb, 0, none⟩ = some (.slice a l.length c)
  len : ws.length = l.length
  sit : 0 < l.length → Sit W C sb g cap (ceils l) own ws
  each : ∀ i (h : i < ws.length), Each C W l ran i ws[i]
  own_ : Ow l.length (fun i => hasNow (acts l i) (ran i)) own
  csb : C ≤ sb
  lt : sb < W.heap.size
variable {W : World} {C sb g cap : Nat} {own : List Int} {ws : List Wr} {l : List LockM.Wk} {ran : Nat → Nat}
theorem St.below {W' : World} {D : Nat} (h : St W C sb g cap l own ws ran) (hb : Below D W W') (hD : W.heap.size ≤ D) : St W' C sb g cap l own ws ran := by
  obtain ⟨a, c, hc⟩ := h.box
  have hlt := h.lt
  have hcs := h.csb
  refine ⟨⟨a, c, (hb.cell (by show sb < _; omega)).trans hc⟩, h.len, fun h0 => (h.sit h0).below hb hD, fun i hi => ?_, h.own_, h.csb, Nat.lt_of_lt_of_le h.lt hb.size⟩
  obtain ⟨h1, h2, h3, h4, h5⟩ := h.each i hi
  exact ⟨h1, h2, h3, h4.next (hb.mono (by omega)), h5⟩
theorem cntU_mono {l : List LockM.Ac} {j : Nat} (hj : j ≤ l.length) : cntU l j ≤ (units 0 l).length := by
  rw [← cntU_all]
  have : ∀ d, j + d ≤ l.length → cntU l j ≤ cntU l (j + d) := by
    intro d
    induction d with
    | zero => intro _; exact Nat.le_refl _
    | succ d ih =>
      intro hd
      have e1 := cntU_succ (l := l) (j := j + d) (by omega)
      have e2 := ih (by omega)
      have e3 : j + (d + 1) = j + d + 1 := by omega
      rw [e3, e1]
      exact Nat.le_trans e2 (Nat.le_add_right _ _)
  have := this (l.length - j) (by omega)
  rwa [show j + (l.length - j) = l.length by omega] at this
theorem _root_.Go.Proofs.Ytllfpbngfkimlaa.LockM.At.most {l : List LockM.Ac} {r j q : Nat} (a : At l r j q) : r ≤ (units 0 l).length := by
  rcases a.mid with h0 | ⟨h1, h2, h3⟩
  · have := a.cnt; have := cntU_mono a.le; omega
  · have := a.cnt; have := lt_all (q := q) h1 h2 (by omega); omega
/-- what choose has so far -/
def Cho (w : Wks) (t : Nat) (ran : Nat → Nat) (g k : Nat) (v5 v6 : Value) : Prop :=
  (pick w t ran k = none ∧ v5 = .pointer none ∧ v6 = .int .i64 0) ∨ ∃ b, b < w.n ∧ pick w t ran k = some b ∧ v5 = .pointer (some ⟨g, b * 5, none⟩) ∧ v6 = .int .i64 ((w.u ran b : Nat) : Int)
/-- the answer: a pointer -/
def ptr (g : Nat) : Option Nat → Value
  | none => .pointer none
  | some b => .pointer (some ⟨g, b * 5, none⟩)
theorem now_in {l : List LockM.Ac} {r : Nat} {k : Int} (h : k ∈ hasNow l r) : 0 ≤ k ∧ k ≤ 7 := by
  have aux : ∀ j, k ∈ (hasAt l j).getD [] → 0 ≤ k ∧ k ≤ 7 := by
    intro j h
    cases e : hasAt l j with
    | none => rw [e] at h; cases h
    | some q => rw [e] at h; exact (hasAt_keeps e).2 k h
  unfold hasNow at h
  split at h
  · cases h
  · simp only at h
    split at h
    · exact aux _ h
    · exact aux _ h
section
variable {w : Wks} {t k : Nat} {v5 v6 : Value}
theorem Cho.skip (h : Cho w t ran g k v5 v6) (hc : ¬ (w.came k ≤ t ∧ ran k < w.T k)) : Cho w t ran g (k + 1) v5 v6 := by
  unfold Cho at *
  simp only [pick]
  rw [if_neg hc]
  exact h
theorem Cho.new (hp : pick w t ran k = none) (hk : k < w.n) (hc : w.came k ≤ t ∧ ran k < w.T k) : Cho w t ran g (k + 1) (.pointer (some ⟨g, k * 5, none⟩)) (.int .i64 ((w.u ran k : Nat) : Int)) := by
  refine .inr ⟨k, hk, ?_, rfl, rfl⟩
  simp only [pick]
  rw [if_pos hc, hp]
theorem Cho.take {b : Nat} (hp : pick w t ran k = some b) (hk : k < w.n) (hc : w.came k ≤ t ∧ ran k < w.T k) (hu : w.u ran k ≤ w.u ran b) : Cho w t ran g (k + 1) (.pointer (some ⟨g, k * 5, none⟩)) (.int .i64 ((w.u ran k : Nat) : Int)) := by
  refine .inr ⟨k, hk, ?_, rfl, rfl⟩
  simp only [pick]
  rw [if_pos hc, hp]
  simp only [if_pos hu]
theorem Cho.keep {b : Nat} (hp : pick w t ran k = some b) (hb : b < w.n) (hc : w.came k ≤ t ∧ ran k < w.T k) (hu : ¬ w.u ran k ≤ w.u ran b) : Cho w t ran g (k + 1) (.pointer (some ⟨g, b * 5, none⟩)) (.int .i64 ((w.u ran b : Nat) : Int)) := by
  refine .inr ⟨b, hb, ?_, rfl, rfl⟩
  simp only [pick]
  rw [if_pos hc, hp]
  simp only [if_neg hu]
end
set_option maxRecDepth 20000 in
set_option maxHeartbeats 400000 in
theorem choose_any (hk : Oks l) (t : Nat) (ht : t ≤ 20000) (h : St W C sb g cap l own ws ran) :
    Calls Try.prog 48 #[.pointer (some ⟨sb, 0, none⟩), .int .i64 t] W fun e W' => e = .returned (ptr g (pick (wks l) t ran l.length)) ∧ Below W.heap.size W W' := by
  have HS := hid h
  have hl8 : l.length ≤ 8 := hk.1
  obtain ⟨a0, c0, hc0⟩ := h.box
  have HK := hid hk
  clear h hk
  go_enter Try.func48, Try.ntmps48
  go_wp2_with fail
  go_loopw [5, 6, 15] (fun v5 v6 v15 wr => ∃ k : Nat, k ≤ l.length ∧ v15 = .int .i64 k ∧ Hid (Cho (wks l) t ran g k v5 v6) ∧ Below W.heap.size W wr) (fun _ _ v15 _ => l.length - (intOf v15).toNat)
  case atStart => exact ⟨0, by omega, rfl, (.inl ⟨rfl, rfl, rfl⟩ : Cho _ _ _ _ _ _ _), Below.refl _ _⟩
  case round =>
    obtain ⟨k, hkl, rfl, hcho, hb⟩ := hrel
    have HB := hid hb
    have HS2 := hid (HS.out.below hb (Nat.le_refl _))
    by_cases hlt : k < l.length
    · have i1 : (k : Int) < (l.length : Int) := by omega
      have hkw : k < ws.length := by have := HS2.out.len; omega
      have hsit := HS2.out.sit (by omega)
      have HE := hid (HS2.out.each k hkw)
      have hw := hid (hsit.wat hkw)
      have b0 := hsit.c0
      rw [HS2.out.len] at b0
      have c0 := hw.out.c0
      rw [HE.out.came] at c0
      have hov := hid (fun m => isOver_q (wr.drewN m) g (k * 5) ws[k] (hw.out.drewN m))
      have hov0 := hid (isOver_q wr g (k * 5) ws[k] hw.out)
      have hcm := (HK.out.at hlt).come
      have hiso := HE.out.at_.isOver
      have hcond : ((wks l).came k ≤ t ∧ ran k < (wks l).T k) ↔ ((l.getD k (0, [])).1 ≤ t ∧ ws[k].next ≠ ws[k].n) := by
        have e1 : (wks l).came k = (l.getD k (0, [])).1.toNat := rfl
        have e2 : (wks l).T k = (units 0 (acts l k)).length := rfl
        have e3 := HE.out.n
        have e4 : ran k ≤ (wks l).T k := by
          rw [e2]; exact HE.out.at_.most
        rw [e3, e1, e2]
        constructor
        · rintro ⟨h1, h2⟩
          exact ⟨by omega, fun e => by have := hiso.1 e; omega⟩
        · rintro ⟨h1, h2⟩
          refine ⟨by omega, ?_⟩
          rcases Nat.lt_or_ge (ran k) (units 0 (acts l k)).length with q | q
          · exact q
          · exact absurd (hiso.2 (by omega)) h2
      have HC := hid hcond
      have HUR := hid (fun m => urgency_any (hsit.drewN m) k hkw (by omega) HE.out.num l rfl (fun i => hasNow (acts l i) (ran i)) (by rw [HS2.out.len]; exact HS2.out.own_) (fun j hj => now_in hj) (fun j hj => Nat.lt_of_le_of_lt (ceil_le (hasNow_took hj)) hlt) hl8)
      have hunf : urg (ceil l) k ((fun i => hasNow (acts l i) (ran i)) k) = (wks l).u ran k := rfl
      rw [hunf] at HUR
      clear hb hsit hiso hcond hunf
      generalize hcame : (l.getD k (0, [])).1 = came at *
      by_cases hc1 : came ≤ (t : Int)
      · have g1 : ¬ (t : Int) < came := by omega
        by_cases hc2 : ws[k].next = ws[k].n
        · have HN := hid (fun h => (HC.out.1 h).2 hc2)
          rw [decide_eq_true hc2] at hov0
          clear hc2
          go_wp2_with (first | (go_at_call 50; refine Calls.mono hov0.out ?_; rintro e w1 ⟨rfl, m1, rfl⟩))
          go_roundw
          case rel => exact ⟨k + 1, by omega, by go_num, hcho.out.skip HN.out, below_drewN HB.out _⟩
          case measure => simp [intOf]; omega
        · have HN := hid (HC.out.2 ⟨hc1, hc2⟩)
          rw [decide_eq_false hc2] at hov0
          clear hc2
          have hul : (wks l).u ran k ≤ k := urg_le _ _ _
          rcases hcho.out with ⟨p1, rfl, rfl⟩ | ⟨b, hbn, p1, rfl, rfl⟩
          · have HX : Hid (Cho (wks l) t ran g (k + 1) (.pointer (some ⟨g, k * 5, none⟩)) (.int .i64 (((wks l).u ran k : Nat) : Int))) := Cho.new p1 hlt HN.out
            clear hcho
            generalize (wks l).u ran k = uk at *
            go_wp2_with (first | (go_at_call 50; refine Calls.mono hov0.out ?_; rintro e w1 ⟨rfl, m1, rfl⟩) | (go_at_call 58; refine Calls.mono (HUR.out _) ?_; rintro e w1 ⟨rfl, rfl⟩))
            go_roundw
            case rel => exact ⟨k + 1, by omega, by go_num, HX.out, below_drewN HB.out _⟩
            case measure => simp [intOf]; omega
          · have HX1 := hid (fun hu => (Cho.take p1 hlt HN.out hu : Cho (wks l) t ran g (k + 1) _ _))
            have HX2 := hid (fun hu => (Cho.keep p1 hbn HN.out hu : Cho (wks l) t ran g (k + 1) _ _))
            have hul2 : (wks l).u ran b ≤ b := urg_le _ _ _
            clear hcho
            generalize (wks l).u ran k = uk at *
            generalize (wks l).u ran b = ub at *
            by_cases hu : uk ≤ ub
            · have hu2 : (uk : Int) ≤ (ub : Int) := by omega
              have HX := hid (HX1.out hu)
              clear hu
              go_wp2_with (first | (go_at_call 50; refine Calls.mono hov0.out ?_; rintro e w1 ⟨rfl, m1, rfl⟩) | (go_at_call 58; refine Calls.mono (HUR.out _) ?_; rintro e w1 ⟨rfl, rfl⟩))
              go_roundw
              case rel => exact ⟨k + 1, by omega, by go_num, HX.out, below_drewN HB.out _⟩
              case measure => simp [intOf]; omega
            · have hu2 : ¬ (uk : Int) ≤ (ub : Int) := by omega
              have HX := hid (HX2.out hu)
              clear hu
              go_wp2_with (first | (go_at_call 50; refine Calls.mono hov0.out ?_; rintro e w1 ⟨rfl, m1, rfl⟩) | (go_at_call 58; refine Calls.mono (HUR.out _) ?_; rintro e w1 ⟨rfl, rfl⟩))
              go_roundw
              case rel => exact ⟨k + 1, by omega, by go_num, HX.out, below_drewN HB.out _⟩
              case measure => simp [intOf]; omega
      · have g1 : (t : Int) < came := by omega
        have HN := hid (fun h => hc1 (HC.out.1 h).1)
        clear hc1
        go_wp2_with fail
        go_roundw
        case rel => exact ⟨k + 1, by omega, by go_num, hcho.out.skip HN.out, HB.out⟩
        case measure => simp [intOf]; omega
    · obtain rfl : k = l.length := by omega
      clear hb
      rcases hcho.out with ⟨p1, rfl, rfl⟩ | ⟨b, hbn, p1, rfl, rfl⟩
      · go_wp2_with fail
        go_ret
        exact ⟨by rw [p1]; rfl, HB.out⟩
      · go_wp2_with fail
        go_ret
        exact ⟨by rw [p1]; rfl, HB.out⟩
end LockC
end Go.Proofs.Ytllfpbngfkimlaa
