/- Package port: do whole; Play. -/
import Derived.Test.YtllfpbngfkimlaaPrtG
set_option linter.unusedVariables false
namespace Go.Proofs.Ytllfpbngfkimlaa
open Go.RowKit
open Go.Shelf Go.Sort
open SpanM SpanC IntsC
namespace PortC
open PrtM
theorem do_any (p : Pt) (o : PrtM.Op) (a : Option Addr) (c : Nat) (w : World) (hr : RdS w a p.texts) (hn : a = none → p.texts.length = 0 ∧ c = 0) (hc : p.texts.length ≤ c) :
    Calls Try.prog 45 #[vP p (.slice a p.texts.length c), .agg #[.int .i64 o.1, .int .i64 o.2.1, .string o.2.2]] w fun e w' => (∃ u, e = .returned (.tuple #[vP (doP p o) u, .agg #[.string (doA p o).1, .bool (doA p o).2.1, .int .i64 (doA p o).2.2]]) ∧ (u = .slice a p.texts.length c ∧ doP p o = p ∨ OwnS w' w.heap.size u (doP p o).texts)) ∧ Below w.heap.size w w' := by
  obtain ⟨k, now, s⟩ := o
  by_cases k1 : k = 1
  · subst k1
    have hA : doA p (1, now, s) = (e0, false, wrE p s now) := by unfold doA; rw [if_pos rfl]
    have HW := fun wx (hb : Below w.heap.size w wx) => Write_any p a c s now wx (hr.below hb (Nat.le_refl _)) hn
    by_cases h0 : wrE p s now = 0
    · have hP : doP p (1, now, s) = wrQ p s now := by unfold doP wrQ; rw [hA, if_pos h0, if_pos h0, if_pos rfl]
      rw [hA, hP, h0]
      rw [h0] at HW
      exact (do_wr_ok p.kind p.size p.room p.fresh p.tm a p.texts.length c now s w _ _ _ _ _ _ HW).mono fun e w' h => ⟨by obtain ⟨u, h1, h2⟩ := h.1; exact ⟨u, h1, .inr h2⟩, h.2⟩
    · have hP : doP p (1, now, s) = p := doP_no (by rw [hA]; exact h0)
      rw [hA, hP]
      exact (do_wr_no p.kind p.size p.room p.fresh p.tm a p.texts.length c now s w _ _ _ _ _ _ _ (by simp [h0]) HW).mono fun e w' h => ⟨⟨_, h.1, .inl ⟨rfl, rfl⟩⟩, h.2⟩
  · by_cases k2 : k = 2
    · subst k2
      have HW := fun wx (hb : Below w.heap.size w wx) => Read_any p a c now wx (hr.below hb (Nat.le_refl _)) hc
      by_cases h0 : rdE p now = 0
      · have hA : doA p (2, now, s) = (rdT p, rdF p now, 0) := by unfold doA; rw [if_neg (by simp), if_pos rfl, if_pos h0]
        have hP : doP p (2, now, s) = rdQ p now := by unfold doP rdQ; rw [hA, if_pos rfl, if_pos h0, if_neg (by simp)]
        have hX : rdX p now = rdT p := by unfold rdX; rw [if_pos h0]
        have hF : rdB p now = rdF p now := by unfold rdB; rw [if_pos h0]
        rw [hA, hP]
        rw [h0, hX, hF] at HW
        exact (do_rd_ok p.kind p.size p.room p.fresh p.tm a p.texts.length c now s w _ _ _ _ _ _ _ _ HW).mono fun e w' h => ⟨by obtain ⟨u, h1, h2⟩ := h.1; exact ⟨u, h1, .inr h2⟩, h.2⟩
      · have hA : doA p (2, now, s) = (e0, false, rdE p now) := by unfold doA; rw [if_neg (by simp), if_pos rfl, if_neg h0]
        have hP : doP p (2, now, s) = p := doP_no (by rw [hA]; exact h0)
        have hX : rdX p now = e0 := by unfold rdX; rw [if_neg h0]
        have hF : rdB p now = false := by unfold rdB; rw [if_neg h0]
        rw [hA, hP]
        rw [hX, hF] at HW
        exact (do_rd_no p.kind p.size p.room p.fresh p.tm a p.texts.length c now s w _ _ _ _ _ _ _ _ _ (by simp [h0]) HW).mono fun e w' h => ⟨⟨_, h.1, .inl ⟨rfl, rfl⟩⟩, h.2⟩
    · have hA : doA p (k, now, s) = (e0, false, 1) := by unfold doA; rw [if_neg k1, if_neg k2]
      have hP : doP p (k, now, s) = p := doP_no (by rw [hA]; decide)
      rw [hA, hP]
      exact (do_none p.kind p.size p.room p.fresh p.tm a p.texts.length c k now s w (by simp [k1]) (by simp [k2])).mono fun e w' h => ⟨⟨_, h.1, .inl ⟨rfl, rfl⟩⟩, h.2⟩
theorem own_rd {w : World} {B : Nat} {v : Value} {l : List ByteArray} (h : OwnS w B v l) : ∃ a cap, v = .slice a l.length cap ∧ RdS w a l ∧ (a = none → l.length = 0 ∧ cap = 0) ∧ l.length ≤ cap := by
  obtain ⟨a, cap, rfl, hr, hn⟩ := RowG.Own.rd h
  rcases h.form with ⟨e, rfl⟩ | ⟨g, c, e, _, _, h1, _⟩
  · exact ⟨a, cap, rfl, hr, hn, Nat.zero_le _⟩
  · simp only [Value.slice.injEq] at e
    obtain ⟨rfl, _, rfl⟩ := e
    exact ⟨_, _, rfl, hr, hn, h1⟩
/-- what is told of the first k ops, nothing behind them -/
def TB (p : Pt) (l : List PrtM.Op) (k : Nat) : List An := told p (l.take k) ++ List.replicate (l.length - k) zAn
theorem TB_len (p : Pt) (l : List PrtM.Op) {k : Nat} (h : k ≤ l.length) : (TB p l k).length = l.length := by
  unfold TB
  rw [List.length_append, told_length, List.length_take, List.length_replicate]; omega
theorem TB_zero (p : Pt) (l : List PrtM.Op) : TB p l 0 = List.replicate l.length zAn := by simp [TB, told]
theorem TB_all (p : Pt) (l : List PrtM.Op) : TB p l l.length = told p l := by simp [TB]
theorem TB_set (p : Pt) (l : List PrtM.Op) {k : Nat} (h : k < l.length) : (TB p l k).set k (doA (fin p (l.take k)) (l.getD k zOp)) = TB p l (k + 1) := by
  unfold TB
  have hl : (told p (l.take k)).length = k := by rw [told_length, List.length_take]; omega
  rw [told_step p l k h, List.set_append_right _ _ (by omega), hl, Nat.sub_self, show l.length - k = l.length - (k + 1) + 1 by omega, List.replicate_succ, List.set_cons_zero, List.append_assoc]
  rfl
theorem madeAn (n : Nat) : (madeCells (Value.agg #[.string e0, .bool false, .int .i64 0]).cells (n * 3)).toList = EA.flat (List.replicate n zAn) := by
  apply List.ext_getElem?
  intro j
  by_cases hj : j < n * 3
  · have h1 := RowG.flat_get EA (List.replicate n zAn) (j / 3) (j % 3) (by simp; omega) (by show j % 3 < 3; omega)
    have h2 : j / 3 * EA.k + j % 3 = j := by show j / 3 * 3 + j % 3 = j; omega
    rw [h2] at h1
    rw [h1]
    have h3 : j % 3 = 0 ∨ j % 3 = 1 ∨ j % 3 = 2 := by omega
    have h4 : j < (madeCells (Value.agg #[.string e0, .bool false, .int .i64 0]).cells (n * 3)).toList.length := by simp [size_madeCells]; exact hj
    rw [List.getElem?_eq_getElem h4]
    rcases h3 with h3 | h3 | h3 <;> simp [EA, madeCells, Value.cells, h3]
  · rw [List.getElem?_eq_none (by simp [size_madeCells]; omega), List.getElem?_eq_none (by rw [RowG.flat_length]; show _ ≤ j; simp [EA]; omega)]
/-- what Play has in memory -/
structure PL (w W : World) (p : Pt) (A : List An) (g n : Nat) : Prop where
  res : W.heap[w.heap.size]? = some (.cells z6 36)
  box : ∃ v, W.heap[w.heap.size + 1]? = some (.cells (cP p v) 36) ∧ OwnS W w.heap.size v p.texts
  told : OwnA W w.heap.size (vS g n n) A
  bel : Below w.heap.size w W
  hg : w.heap.size + 1 + 1 ≤ g
theorem PL.put {w W : World} {p p' : Pt} {A : List An} {g n k : Nat} (h : PL w W p A g n) (v' : Value) (ho : OwnS W w.heap.size v' p'.texts) (hk : k < A.length) (a : An) :
    PL w ((st6 W (w.heap.size + 1) (.int .i64 p'.kind) (.int .i64 p'.size) (.int .i64 p'.room) (.int .i64 p'.fresh) v' (.int .i64 p'.tm)).setCells g (k * 3) (EA.enc a)) p' (A.set k a) g n := by
  obtain ⟨v, hb, _⟩ := h.box
  have hg := h.hg
  have o1 : OwnA (st6 W (w.heap.size + 1) (.int .i64 p'.kind) (.int .i64 p'.size) (.int .i64 p'.room) (.int .i64 p'.fresh) v' (.int .i64 p'.tm)) w.heap.size (vS g n n) A := st6_own h.told (orow_ne_box h.told hb (by decide))
  obtain ⟨o2, g2⟩ := RowG.Own.set o1 k hk a
  have hk3 : EA.k = 3 := rfl
  rw [hk3] at o2 g2
  have hl : ∀ {x : Nat}, x < W.heap.size → x < (st6 W (w.heap.size + 1) (.int .i64 p'.kind) (.int .i64 p'.size) (.int .i64 p'.room) (.int .i64 p'.fresh) v' (.int .i64 p'.tm)).heap.size := fun hx => by simpa using hx
  have l0 := (Array.getElem?_eq_some_iff.1 h.res).1
  have l1 := (Array.getElem?_eq_some_iff.1 hb).1
  have hgA : ∀ {x : Nat}, w.heap.size ≤ x → OwnS W w.heap.size v' p'.texts → v'.ownBlock ≠ some g := by
    intro x _ hv
    rcases h.told.2 with ⟨e, _⟩ | ⟨g', cap', cur, e, _, hc, _⟩
    · cases e
    · simp only [Value.slice.injEq, Option.some.injEq, Addr.mk.injEq, and_true] at e
      obtain ⟨rfl, _⟩ := e
      exact orow_ne_box hv hc (by decide)
  refine ⟨?_, ⟨v', ?_, ?_⟩, o2, ?_, h.hg⟩
  · rw [g2.block _ (hl l0) (by simp; omega), st6_other _ _ _ _ _ _ (by omega)]
    exact h.res
  · rw [g2.block _ (hl l1) (by simp; omega)]
    exact st6_heap hb
  · exact RowG.Own.kept (st6_own ho (orow_ne_box ho hb (by decide))) g2 (.inr (hgA (Nat.le_refl _) ho))
  · exact Below.grown (st6_below h.bel (by omega)) g2 (Nat.le_trans h.bel.size (by simp)) (fun j hj => by simp at hj; omega)
theorem PL.below {w W V : World} {p : Pt} {A : List An} {g n : Nat} (h : PL w W p A g n) (k : Below W.heap.size W V) : PL w V p A g n := by
  obtain ⟨v, hb, ho⟩ := h.box
  exact ⟨box_below h.res k (Nat.le_refl _), ⟨v, box_below hb k (Nat.le_refl _), ho.below k (Nat.le_refl _)⟩, h.told.below k (Nat.le_refl _), bel_of h.bel k, h.hg⟩
/-- what Play answers: its error -/
def plE (p : Pt) (l : List PrtM.Op) : Int := if chk p ≠ 0 then chk p else if 500 < l.length then 2 else 0
end PortC
end Go.Proofs.Ytllfpbngfkimlaa
