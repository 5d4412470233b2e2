/- Several texts, one behind the other: TskM2. -/
import Derived.Test.YtpnahhpkaegeeaaPkI
import Derived.Test.YtpnahhpkaegeeaaKRowTkd
/- What fits with less. -/
set_option linter.unusedVariables false
namespace Go.Proofs.Ytpnahhpkaegeeaa
open Go.RowKit hiding tok
open SpanM SupM SpanC TaskM
open RowsO hiding Tk
namespace TaskC
theorem sub_fitE {l ys : List Tk} {size : Int} {sl sm : List Sp} (h : fitE l size sl = 0) (hy : ys.length ≤ 16) (hg : ∀ x ∈ ys, tok x) (hs : ∀ x ∈ evs ys, x ∈ evs l) (hc2 : chk size sm = 0) : fitE ys size sm = 0 := by
  obtain ⟨hk, hc, he, r1, b1, b2⟩ := fitE_zero h
  obtain ⟨s1, s2, _, _⟩ := chk_zero hc
  have gl := (tchk_zero hk).2
  obtain ⟨e1, r2⟩ : rnd l = NumM.lc 1 (evs l) ∧ rnd l ≤ 1099511627776 := by
    rcases rnd_cases gl with ⟨_, e, _, r⟩ | ⟨e, _⟩
    · exact ⟨e, r⟩
    · omega
  have d := round_dvd (evs_pos gl) hs
  have le := round_le (evs_pos gl) hs
  obtain ⟨f1, f2, f3⟩ : rndE ys = 0 ∧ rnd ys = NumM.lc 1 (evs ys) ∧ 1 ≤ rnd ys := by
    rcases rnd_cases hg with ⟨e, f, r, _⟩ | ⟨_, _, e⟩
    · exact ⟨e, f, r⟩
    · omega
  refine fitE_of (tchk_of hy hg) hc2 f1 ?_
  have dd : both ys size ∣ both l size := both_dvd f3 r1 s1 (by rw [f2, e1]; exact d)
  have := Int.le_of_dvd (show 0 < both l size by omega) dd
  omega
theorem less_del {p q : List Tk} {x : Tk} {size : Int} {sl : List Sp} (h : fitE (p ++ x :: q) size sl = 0) (hF : Fit (p ++ x :: q) size sl) : fitE (p ++ q) size sl = 0 ∧ fitN (p ++ q) size sl = 0 ∧ fitB (p ++ q) size sl = true := by
  obtain ⟨hk, hc, _⟩ := fitE_zero h
  obtain ⟨hl, hg⟩ := tchk_zero hk
  have e := sub_fitE (ys := p ++ q) h (by simp at hl ⊢; omega) (fun y hy => hg y (by simp at hy ⊢; rcases hy with h | h <;> simp [h])) (fun y hy => by simp [evs] at hy ⊢; rcases hy with h | h <;> simp [h]) hc
  have f := fits_less (l := p ++ x :: q) (m := p ++ q) (fun n hn => dem_del (hg x (by simp)) hn) hF
  exact ⟨e, (fit_of e f).2, (fit_of e f).1⟩
theorem less_set {p q : List Tk} {x y : Tk} {size : Int} {sl : List Sp} (h : fitE (p ++ x :: q) size sl = 0) (hF : Fit (p ++ x :: q) size sl) (hy : tok y) (he : y.2.1 = x.2.1) (hd : x.2.2 ≤ y.2.2) (hl : y.1 ≤ x.1) : fitE (p ++ y :: q) size sl = 0 ∧ fitN (p ++ y :: q) size sl = 0 ∧ fitB (p ++ y :: q) size sl = true := by
  obtain ⟨hk, hc, _⟩ := fitE_zero h
  obtain ⟨hl2, hg⟩ := tchk_zero hk
  have e := sub_fitE (ys := p ++ y :: q) h (by simp at hl2 ⊢; omega) (fun z hz => by
    simp at hz
    rcases hz with hz | rfl | hz
    · exact hg z (by simp [hz])
    · exact hy
    · exact hg z (by simp [hz])) (fun z hz => by
    simp [evs] at hz ⊢
    rcases hz with hz | rfl | hz
    · exact .inl hz
    · exact .inr (.inl he)
    · exact .inr (.inr hz)) hc
  have f := fits_less (l := p ++ x :: q) (m := p ++ y :: q) (fun n hn => dem_set (hg x (by simp)) hy he hd hl hn) hF
  exact ⟨e, (fit_of e f).2, (fit_of e f).1⟩
theorem all_chk {size : Int} (s1 : 1 ≤ size) (s2 : size ≤ 1000000) : chk size [(0, size)] = 0 := chk_of s1 s2 (by simp) (all_good s1)
theorem less_all {l : List Tk} {size : Int} {sl : List Sp} (h : fitE l size sl = 0) (hF : Fit l size sl) : fitE l size [(0, size)] = 0 ∧ fitN l size [(0, size)] = 0 ∧ fitB l size [(0, size)] = true := by
  obtain ⟨hk, hc, _⟩ := fitE_zero h
  obtain ⟨hl, hg⟩ := tchk_zero hk
  obtain ⟨s1, s2, s3, s4⟩ := chk_zero hc
  have e := sub_fitE (ys := l) h hl hg (fun _ h => h) (all_chk s1 s2)
  have f := fits_all s1 s4 hF
  exact ⟨e, (fit_of e f).2, (fit_of e f).1⟩
/-- one field of one row is stored anew -/
theorem own_long {w : World} {B g n cap : Nat} {p q : List Tk} {a e d v : Int} (h : OwnTk w B (.slice (some ⟨g, 0, none⟩) n cap) (p ++ (a, e, d) :: q)) (hn : n = (p ++ (a, e, d) :: q).length) :
    OwnTk (w.setCell ⟨g, p.length * 3, none⟩ (.int .i64 v)) B (.slice (some ⟨g, 0, none⟩) n cap) (p ++ (v, e, d) :: q) ∧ w.grownBy (w.setCell ⟨g, p.length * 3, none⟩ (.int .i64 v)) (some g) := by
  subst hn
  obtain ⟨h1, h2⟩ := World.ownsRow.stored h (p.length * 3) (.int .i64 v)
  refine ⟨?_, h2⟩
  unfold OwnTk
  have e1 : (flatTk (p ++ (a, e, d) :: q)).set (p.length * 3) (.int .i64 v) = flatTk (p ++ (v, e, d) :: q) := by
    rw [flatTk_append, flatTk_append, ← flatTk_length p, List.set_append_right _ _ (Nat.le_refl _)]
    simp [flatTk]
  rw [← e1]
  simpa using h1
theorem own_due {w : World} {B g n cap : Nat} {p q : List Tk} {a e d v : Int} (h : OwnTk w B (.slice (some ⟨g, 0, none⟩) n cap) (p ++ (a, e, d) :: q)) (hn : n = (p ++ (a, e, d) :: q).length) :
    OwnTk (w.setCell ⟨g, p.length * 3 + 2, none⟩ (.int .i64 v)) B (.slice (some ⟨g, 0, none⟩) n cap) (p ++ (a, e, v) :: q) ∧ w.grownBy (w.setCell ⟨g, p.length * 3 + 2, none⟩ (.int .i64 v)) (some g) := by
  subst hn
  obtain ⟨h1, h2⟩ := World.ownsRow.stored h (p.length * 3 + 2) (.int .i64 v)
  refine ⟨?_, h2⟩
  unfold OwnTk
  have e1 : (flatTk (p ++ (a, e, d) :: q)).set (p.length * 3 + 2) (.int .i64 v) = flatTk (p ++ (a, e, v) :: q) := by
    rw [flatTk_append, flatTk_append, ← flatTk_length p, List.set_append_right _ _ (by omega)]
    simp [flatTk]
  rw [← e1]
  simpa using h1
theorem own_cells {w : World} {B g n cap : Nat} {l : List Tk} (h : OwnTk w B (.slice (some ⟨g, 0, none⟩) n cap) l) (hn : n = l.length) (j : Nat) (hj : j < l.length) :
    (w.cell? ⟨g, j * 3, none⟩ = some (.int .i64 (l.getD j zTk).1) ∧ w.cell? ⟨g, j * 3 + 1, none⟩ = some (.int .i64 (l.getD j zTk).2.1) ∧ w.cell? ⟨g, j * 3 + 2, none⟩ = some (.int .i64 (l.getD j zTk).2.2)) ∧ (∀ i, w.frozen? ⟨g, i, none⟩ = false) := by
  subst hn
  obtain ⟨f1, f2, f3⟩ := flatTk_at l j hj
  refine ⟨⟨?_, ?_, ?_⟩, fun i => World.ownsRow.frozenAt h i⟩
  · rw [(h.holdsAt (j * 3) (by omega)).1, f1]
  · rw [(h.holdsAt (j * 3 + 1) (by omega)).1, f2]
  · rw [(h.holdsAt (j * 3 + 2) (by omega)).1, f3]
theorem own_some {w : World} {B : Nat} {v : Value} {l : List Tk} (h : OwnTk w B v l) (hl : 0 < l.length) : ∃ g cap, v = .slice (some ⟨g, 0, none⟩) l.length cap ∧ B ≤ g ∧ g < w.heap.size := by
  rcases h.form with ⟨_, rfl⟩ | ⟨g, cap, e, h1, h2, _⟩
  · simp at hl
  · exact ⟨g, cap, e, h1, h2⟩
end TaskC
end Go.Proofs.Ytpnahhpkaegeeaa
