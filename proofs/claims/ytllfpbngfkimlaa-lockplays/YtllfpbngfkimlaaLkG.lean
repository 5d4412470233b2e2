/- Package lock: what play keeps in memory. -/
import Derived.Test.YtllfpbngfkimlaaLkF
import Derived.Deep.OwnRows
set_option linter.unusedVariables false
namespace Go.Proofs.Ytllfpbngfkimlaa
open Go.RowKit
open Go.Shelf Go.Sort
open SpanM SpanC IntsC
open RowsO hiding Wk
namespace LockC
open LockM
open NumC (Row)
theorem own_same {W W' : World} {B e size g n cap : Nat} {m : Nat} {xs : List Value} (h : W.ownsRow B e size (vS g n cap) m xs) (hg : W'.heap[g]? = W.heap[g]?) : W'.ownsRow B e size (vS g n cap) m xs := by
  refine ⟨h.1, ?_⟩
  rcases h.2 with h0 | ⟨g', cap', cur, h1, h2, h3, h4⟩
  · exact .inl h0
  · refine .inr ⟨g', cap', cur, h1, h2, ?_, h4⟩
    simp only [vS, Value.slice.injEq, Option.some.injEq, Addr.mk.injEq, and_true] at h1
    obtain ⟨rfl, _⟩ := h1
    rw [hg]; exact h3
theorem cell_same {W W' : World} {b j : Nat} (h : W'.heap[b]? = W.heap[b]?) : W'.cell? ⟨b, j, none⟩ = W.cell? ⟨b, j, none⟩ := by simp [World.cell?, h]
variable {W : World} {C sb g cap : Nat} {own : List Int} {ws : List Wr} {l : List LockM.Wk} {ran : Nat → Nat}
theorem Sit.kept {W' : World} {B : Nat} {cl : List Int} (h : Sit W B sb g cap cl own ws) (h1 : W'.heap[sb]? = W.heap[sb]?) (h2 : W'.heap[g]? = W.heap[g]?) : Sit W' B sb g cap cl own ws :=
  ⟨by rw [h1]; exact h.box, own_same h.row h2, h.cll, h.owl⟩
theorem St.kept {W' : World} (h : St W C sb g cap l own ws ran) (hb : Below C W W') (h1 : W'.heap[sb]? = W.heap[sb]?) (h2 : W'.heap[g]? = W.heap[g]?) : St W' C sb g cap l own ws ran := by
  obtain ⟨a, c, hc⟩ := h.box
  refine ⟨⟨a, c, (cell_same h1).trans hc⟩, h.len, fun h0 => (h.sit h0).kept h1 h2, fun i hi => ?_, h.own_, h.csb, Nat.lt_of_lt_of_le h.lt hb.size⟩
  obtain ⟨q1, q2, q3, q4, q5⟩ := h.each i hi
  exact ⟨q1, q2, q3, q4.next hb, q5⟩
/-- what is told, as play has it: its rows and their boxes; all else but the site is as it was -/
structure PB (W wr : World) (sb g gr ge bt nu nl : Nat) (rl el : List Int) : Prop where
  ch : Ch sb (some g) W wr
  res : wr.heap[W.heap.size]? = some (.cells #[.slice none 0 0, .slice none 0 0, .int .i64 0] 25)
  tb : wr.heap[bt]? = some (.cells #[vS gr nu nu, vS ge nl nl, .int .i64 0] 25)
  r : OwnI wr (W.heap.size + 1) (vS gr nu nu) rl
  e : OwnI wr (W.heap.size + 1) (vS ge nl nl) el
  ap : gr ≠ ge
  lr : nu = rl.length
  le : nl = el.length
  bb : W.heap.size < bt
theorem OwnI.at_ge {w : World} {B gr n c : Nat} {rl : List Int} (h : OwnI w B (vS gr n c) rl) : B ≤ gr ∧ gr < w.heap.size := by
  rcases h.form with ⟨e, _⟩ | ⟨g, cap, e, h1, h2, _⟩
  · simp [vS] at e
  · simp only [vS, Value.slice.injEq, Option.some.injEq, Addr.mk.injEq, and_true] at e
    obtain ⟨rfl, _⟩ := e
    exact ⟨h1, h2⟩
theorem OwnI.ne_box {w : World} {B gr n c bx T : Nat} {cs : Array Value} {rl : List Int} (h : OwnI w B (vS gr n c) rl) (hb : w.heap[bx]? = some (.cells cs T)) (hT : T ≠ 3) : bx ≠ gr := by
  intro e
  rcases h.2 with ⟨e1, _⟩ | ⟨g', cap', cur, e1, _, hg, _⟩
  · simp [vS] at e1
  · simp only [vS, Value.slice.injEq, Option.some.injEq, Addr.mk.injEq, and_true] at e1
    obtain ⟨rfl, _⟩ := e1
    rw [e, hg] at hb
    injection hb with hb
    injection hb with _ h2 _
    exact hT h2.symm
section
variable {wr w' : World} {gr ge bt nu nl : Nat} {rl el : List Int}
theorem PB.other (p : PB W wr sb g gr ge bt nu nl rl el) (hsb : sb < W.heap.size) (hg : g < W.heap.size) (k : Ch sb (some g) wr w') : PB W w' sb g gr ge bt nu nl rl el := by
  have gr1 := OwnI.at_ge p.r
  have ge1 := OwnI.at_ge p.e
  have h1 := (Array.getElem?_eq_some_iff.1 p.tb).1
  have h0 := (Array.getElem?_eq_some_iff.1 p.res).1
  have hb := p.bb
  refine ⟨p.ch.trans k, ?_, ?_, own_same p.r ?_, own_same p.e ?_, p.ap, p.lr, p.le, p.bb⟩
  · rw [k.block _ h0 (by omega) (by simp; omega)]; exact p.res
  · rw [k.block _ h1 (by omega) (by simp; omega)]; exact p.tb
  · exact k.block _ gr1.2 (by omega) (by simp; omega)
  · exact k.block _ ge1.2 (by omega) (by simp; omega)
theorem Ch.of_below {bx : Nat} {o : Option Nat} (hb : Below wr.heap.size wr w') : Ch bx o wr w' := ⟨hb.os, hb.tape, hb.output, hb.size, fun k hk _ _ => hb.block k hk⟩
theorem PB.setR (p : PB W wr sb g gr ge bt nu nl rl el) (t : Nat) (v : Int) : PB W (wr.setCell ⟨gr, t, none⟩ (.int .i64 v)) sb g gr ge bt nu nl (rl.set t v) el := by
  have gr1 := OwnI.at_ge p.r
  have hnb := OwnI.ne_box p.r p.tb (by decide)
  have hnr := OwnI.ne_box p.r p.res (by decide)
  have hap := p.ap
  refine ⟨⟨p.ch.os, p.ch.tape, p.ch.output, by show _ ≤ (wr.heap.modify _ _).size; simp; exact p.ch.size, fun k hk h1 h2 => by rw [heap_setCell_other _ _ _ _ (by show k ≠ gr; omega)]; exact p.ch.block k hk h1 h2⟩, ?_, ?_, (OwnI.set p.r p.lr t v).1, own_same p.e ?_, p.ap, by rw [List.length_set]; exact p.lr, p.le, p.bb⟩
  · rw [heap_setCell_other _ _ _ _ hnr]; exact p.res
  · rw [heap_setCell_other _ _ _ _ hnb]; exact p.tb
  · exact heap_setCell_other _ _ _ _ (fun e => hap e.symm)
theorem PB.setE (p : PB W wr sb g gr ge bt nu nl rl el) (t : Nat) (v : Int) : PB W (wr.setCell ⟨ge, t, none⟩ (.int .i64 v)) sb g gr ge bt nu nl rl (el.set t v) := by
  have gr1 := OwnI.at_ge p.e
  have hnb := OwnI.ne_box p.e p.tb (by decide)
  have hnr := OwnI.ne_box p.e p.res (by decide)
  have hap := p.ap
  refine ⟨⟨p.ch.os, p.ch.tape, p.ch.output, by show _ ≤ (wr.heap.modify _ _).size; simp; exact p.ch.size, fun k hk h1 h2 => by rw [heap_setCell_other _ _ _ _ (by show k ≠ ge; omega)]; exact p.ch.block k hk h1 h2⟩, ?_, ?_, own_same p.r ?_, (OwnI.set p.e p.le t v).1, p.ap, p.lr, by rw [List.length_set]; exact p.le, p.bb⟩
  · rw [heap_setCell_other _ _ _ _ hnr]; exact p.res
  · rw [heap_setCell_other _ _ _ _ hnb]; exact p.tb
  · exact heap_setCell_other _ _ _ _ hap
/-- a store of play's own leaves the site -/
theorem St.set (h : St wr C sb g cap l own ws ran) {q j : Nat} {v : Value} (h1 : sb ≠ q) (h2 : g ≠ q) (hC : C ≤ q) : St (wr.setCell ⟨q, j, none⟩ v) C sb g cap l own ws ran :=
  h.kept ((Below.refl C wr).setCell hC v) (heap_setCell_other _ _ _ _ h1) (heap_setCell_other _ _ _ _ h2)
end
theorem PB.start {wc : World} {gr ge bt u n : Nat} (hb : Below W.heap.size W wc) (h0 : wc.heap[W.heap.size]? = some (.cells #[.slice none 0 0, .slice none 0 0, .int .i64 0] 25)) (h1 : wc.heap[bt]? = some (.cells #[vS gr u u, vS ge n n, .int .i64 0] 25)) (h2 : wc.heap[gr]? = some (.cells (madeCells #[.int .i64 0] u) 3)) (h3 : wc.heap[ge]? = some (.cells (madeCells #[.int .i64 0] n) 3)) (hap : gr ≠ ge) (b1 : W.heap.size < gr) (b2 : W.heap.size < ge) (b3 : W.heap.size < bt) (hu : u ≤ 100000) (hn : n ≤ 100000) :
    PB W wc sb g gr ge bt u n (List.replicate u 0) (List.replicate n 0) := by
  have made : ∀ (q m : Nat), wc.heap[q]? = some (.cells (madeCells #[.int .i64 0] m) 3) → W.heap.size < q → m ≤ 100000 → OwnI wc (W.heap.size + 1) (vS q m m) (List.replicate m 0) := by
    intro q m hq hlt hm
    refine OwnI.made ⟨by simp [size_madeCells], .inr ⟨q, m, _, rfl, by omega, hq, Nat.le_refl _, by unfold maxLen; omega, by simp [size_madeCells], ?_⟩⟩
    rw [List.take_of_length_le (by simp [size_madeCells])]
  exact ⟨⟨hb.os, hb.tape, hb.output, hb.size, fun k hk _ _ => hb.block k hk⟩, h0, h1, made gr u h2 b1 hu, made ge n h3 b2 hn, hap, by simp, by simp, b3⟩
theorem push4 (h : Array Obj) (a b c d : Obj) : ((((h.push a).push b).push c).push d)[h.size]? = some a ∧ ((((h.push a).push b).push c).push d)[h.size + 1]? = some b ∧ ((((h.push a).push b).push c).push d)[h.size + 1 + 1]? = some c ∧ ((((h.push a).push b).push c).push d)[h.size + 1 + 1 + 1]? = some d := by
  refine ⟨?_, ?_, ?_, ?_⟩
  · rw [Array.getElem?_push, if_neg (by simp only [Array.size_push]; omega), Array.getElem?_push, if_neg (by simp only [Array.size_push]; omega), Array.getElem?_push, if_neg (by simp only [Array.size_push]; omega), Array.getElem?_push, if_pos rfl]
  · rw [Array.getElem?_push, if_neg (by simp), Array.getElem?_push, if_neg (by simp), Array.getElem?_push, if_pos (by simp)]
  · rw [Array.getElem?_push, if_neg (by simp), Array.getElem?_push, if_pos (by simp)]
  · rw [Array.getElem?_push, if_pos (by simp)]
/-! lists -/
theorem set_mid (a : List Int) (n : Nat) (v : Int) : (a ++ List.replicate (n + 1) 0).set a.length v = a ++ v :: List.replicate n 0 := by
  rw [List.set_append_right _ _ (Nat.le_refl _), Nat.sub_self, List.replicate_succ, List.set_cons_zero]
/-- what is told of who runs, by a time -/
def ranT (w : Wks) (until_ t : Nat) : List Int := ranL w t ++ List.replicate (until_ - t) 0
theorem ranT_len (w : Wks) {u t : Nat} (h : t ≤ u) : (ranT w u t).length = u := by simp [ranT, ranL_len]; omega
theorem ranT_zero (w : Wks) (u : Nat) : ranT w u 0 = List.replicate u 0 := by simp [ranT, ranL]
theorem ranT_all (w : Wks) (u : Nat) : ranT w u u = ranL w u := by simp [ranT]
theorem ranT_set (w : Wks) {u t : Nat} (h : t < u) : (ranT w u t).set t (whoI w t) = ranT w u (t + 1) := by
  unfold ranT
  obtain ⟨n, hn⟩ : ∃ n, u - t = n + 1 := ⟨u - t - 1, by omega⟩
  rw [hn]
  have := set_mid (ranL w t) n (whoI w t)
  rw [ranL_len] at this
  rw [this, ranL_succ, show u - (t + 1) = n by omega, List.append_assoc]
  rfl
end LockC
end Go.Proofs.Ytllfpbngfkimlaa
