/- The reference's Ran: its states in memory. -/
import Derived.Test.YtceflfdpbgnfjaaVmZD
import Derived.Test.YtceflfdpbgnfjaaVmQ
set_option linter.unusedVariables false
namespace Go.Proofs.Ytceflfdpbgnfjaa
open Go.RowKit
open Go.Shelf Go.Sort
open SpanM hiding good
open SpanC IntsC
open RowsO hiding Em
namespace VmC
open VmP VmM
open NumC (Row)
/-- 'append(v, m...)' of what goes out, in a region that draws its order -/
theorem step_appendE {ops : Array Oper} {o : Oper} {a : Act} {w : World} {K : Act → World → Prop} {Q : Exit → Act → World → Prop} {E : Prop} (hgd : o.guard = none) (s x : Operand)
    (ho : o.op = .call { callee := .builtin .append, args := #[s, x], argTypes := #[26, 26] })
    (B : Nat) (v : Value) (l m : List Em) (sa : Option Addr) (len cap : Nat) (hs : a.eval s = v) (hown : OwnEm w B v l) (hx : a.eval x = .slice sa len cap) (hlen : len = m.length) (hm : Ems w sa m) (hz : sa = none → len = 0 ∧ cap = 0)
    (h63 : l.length + m.length ≤ maxLen) (hbytes : (l.length + m.length) * 16 ≤ 140737488355328) (hB : B ≤ w.heap.size)
    (h : ∀ v' w', OwnEm w' B v' (l ++ m) → w.grownBy w' v.ownBlock → K (a.put o.dst v') w') :
    if Region.wanted o (yielded ops a.tmps) = true then Oper.wp Try.prog o a w K Q else E := by
  have hw : Region.wanted o (yielded ops a.tmps) = true := by simp [Region.wanted, hgd]
  rw [if_pos hw]
  obtain ⟨i0, hi, hz0, hz1, hz2⟩ := info_parts infoEm
  cases sa with
  | none =>
    obtain ⟨e1, rfl⟩ := hz rfl
    obtain rfl : m = [] := List.length_eq_zero_iff.1 (by omega)
    rw [e1] at hx
    have hrun := run_append_owned_none (P := Try.prog) (w := w) B 26 o.type 39 i0 2 Try.underlying26 hi v l.length (flatEm l) hown
    unfold Oper.wp
    simp [execOp, ho, resolve, invoke, builtin, hs, hx, hrun, Result.andThen]
    exact h v w (by simpa using hown) ⟨rfl, rfl, rfl, Nat.le_refl _, fun _ _ _ => rfl⟩
  | some p =>
    subst hlen
    refine wp_append_own w s x 26 ho B 39 i0 (.agg #[.int .i64 0, .int .i64 0]) 2 16 Try.underlying26 hi hz0 hz1 hz2 rfl (by decide) v l.length (flatEm l) hs hown p m.length cap (flatEm m) hx (flatEm_length m) hm.add (flatEm_one m) h63 hbytes hB ?_
    intro v' w' h1 h2 _
    refine h v' w' ?_ h2
    unfold OwnEm
    rw [flatEm_append, List.length_append]
    exact h1
theorem EmV.own {w : World} {B : Nat} {v : Value} {o : List Em} (h : EmV w B v o) : OwnEm w B v o := by
  rcases h with ⟨rfl, rfl⟩ | ⟨b, x, rfl, rfl, hb, hg⟩
  · exact OwnEm.nil _ _
  · exact ⟨rfl, .inr ⟨b, 1, _, rfl, hb, hg, Nat.le_refl _, by unfold maxLen; decide, rfl, rfl⟩⟩
theorem OwnEm.nz' {w : World} {B n c : Nat} {a : Option Addr} {l : List Em} (h : OwnEm w B (.slice a n c) l) : Ems w a l ∧ (a = none → n = 0 ∧ c = 0) := by
  rcases h.form with ⟨e, rfl⟩ | ⟨g, cap, e, _⟩
  · simp only [Value.slice.injEq] at e
    exact ⟨.inl rfl, fun _ => e.2⟩
  · obtain ⟨a', c', e2, hr⟩ := h.rows
    simp only [Value.slice.injEq] at e e2
    refine ⟨by rw [e2.1]; exact hr, fun q => ?_⟩
    rw [e.1] at q; cases q
theorem row_st4 {W : World} {qb qo b : Nat} {l : List Int} (x0 x1 x2 x3 : Value) (h : Row W (some ⟨qb, qo, none⟩) l) (hn : qb ≠ b) : Row (st4 W b x0 x1 x2 x3) (some ⟨qb, qo, none⟩) l := by
  rcases h with h | ⟨b', o', e, h⟩
  · exact .inl h
  · simp only [Option.some.injEq, Addr.mk.injEq, and_true] at e
    obtain ⟨rfl, rfl⟩ := e
    exact .inr ⟨_, _, rfl, fun j hj => (World.cell?_of_block (by exact st4_other _ _ _ _ hn)).trans (h j hj)⟩
/-- a state in the box of what came in; what has gone out -/
structure Rn (w W : World) (s : St) (qb qo cap : Nat) (ov : Value) (out : List Em) : Prop where
  bel : Below w.heap.size w W
  sz : w.heap.size + 2 ≤ W.heap.size
  box : W.heap[w.heap.size]? = some (.cells (vmC s.pc (.slice (some ⟨qb, qo, none⟩) 8 cap) s.halts s.fault) 25)
  res : W.heap[w.heap.size + 1]? = some (.cells zV 25)
  row : Row W (some ⟨qb, qo, none⟩) s.regs
  ne : qb ≠ w.heap.size ∧ qb ≠ w.heap.size + 1
  out : OwnEm W (w.heap.size + 2) ov out
section
variable {w W : World} {s t : St} {qb qo cap g c bx : Nat} {ov lv : Value} {out o : List Em}
theorem Rn.step {W' : World} (h : Rn w W s qb qo cap ov out) (hb : Below W.heap.size W W') : Rn w W' s qb qo cap ov out :=
  ⟨h.bel.trans (hb.mono (by have := h.sz; omega)), Nat.le_trans h.sz hb.size, box_below h.box hb (Nat.le_refl _), box_below h.res hb (Nat.le_refl _), Row.below h.row hb (Nat.le_refl _), h.ne, OwnEm.below h.out hb (Nat.le_refl _)⟩
theorem Rn.cc (h : Rn w W s qb qo cap ov out) : W.cell? ⟨w.heap.size, 0, none⟩ = some (.int .i64 s.pc) ∧ W.cell? ⟨w.heap.size, 1, none⟩ = some (.slice (some ⟨qb, qo, none⟩) 8 cap) ∧ W.cell? ⟨w.heap.size, 2, none⟩ = some (.bool s.halts) ∧ W.cell? ⟨w.heap.size, 3, none⟩ = some (.bool s.fault) := ⟨box_cell h.box 0, box_cell h.box 1, box_cell h.box 2, box_cell h.box 3⟩
theorem Rn.r (h : Rn w W s qb qo cap ov out) : W.cell? ⟨w.heap.size + 1, 0, none⟩ = some (.int .i64 0) ∧ W.cell? ⟨w.heap.size + 1, 1, none⟩ = some (.slice none 0 0) ∧ W.cell? ⟨w.heap.size + 1, 2, none⟩ = some (.bool false) ∧ W.cell? ⟨w.heap.size + 1, 3, none⟩ = some (.bool false) := ⟨box_cell h.res 0, box_cell h.res 1, box_cell h.res 2, box_cell h.res 3⟩
/-- Once's answer, in a box of its own -/
structure Nw (w W : World) (bx g c : Nat) (t : St) (lv : Value) (o : List Em) : Prop where
  box : W.heap[bx]? = some (.cells (vmC t.pc (vS g 8 c) t.halts t.fault) 25)
  own : OwnI W (w.heap.size + 2) (vS g 8 c) t.regs
  ge : w.heap.size + 2 ≤ bx
  em : OwnEm W (w.heap.size + 2) lv o
theorem Nw.step {W' : World} (h : Nw w W bx g c t lv o) (hb : Below W.heap.size W W') : Nw w W' bx g c t lv o :=
  ⟨box_below h.box hb (Nat.le_refl _), OwnI.below h.own hb (Nat.le_refl _), h.ge, OwnEm.below h.em hb (Nat.le_refl _)⟩
theorem Nw.cc (h : Nw w W bx g c t lv o) : W.cell? ⟨bx, 0, none⟩ = some (.int .i64 t.pc) ∧ W.cell? ⟨bx, 1, none⟩ = some (vS g 8 c) ∧ W.cell? ⟨bx, 2, none⟩ = some (.bool t.halts) ∧ W.cell? ⟨bx, 3, none⟩ = some (.bool t.fault) := ⟨box_cell h.box 0, box_cell h.box 1, box_cell h.box 2, box_cell h.box 3⟩
theorem Nw.gl (h : Nw w W bx g c t lv o) : w.heap.size + 2 ≤ g ∧ g < W.heap.size := (World.ownsRow.lt h.own) g rfl
abbrev putW (w W : World) (t : St) (g c : Nat) : World := st4 W w.heap.size (.int .i64 t.pc) (vS g 8 c) (.bool t.halts) (.bool t.fault)
theorem sz_st4 (W : World) (b : Nat) (x0 x1 x2 x3 : Value) : (st4 W b x0 x1 x2 x3).heap.size = W.heap.size := by simp [st4]
/-- it is put into the box -/
theorem Rn.put (h : Rn w W s qb qo cap ov out) (k : Nw w W bx g c t lv o) : Rn w (putW w W t g c) t g 0 c ov out :=
  ⟨st4_below h.bel (Nat.le_refl _), by rw [sz_st4]; exact h.sz, st4_heap h.box, (st4_other _ _ _ _ (by omega)).trans h.res, row_st4 _ _ _ _ (OwnI.row8 k.own) (by have := k.gl; omega), by have := k.gl; omega, st4_own _ _ _ _ h.out h.box (by decide)⟩
theorem Nw.put (h : Rn w W s qb qo cap ov out) (k : Nw w W bx g c t lv o) : Nw w (putW w W t g c) bx g c t lv o :=
  ⟨(st4_other _ _ _ _ (by have := k.ge; omega)).trans k.box, st4_own _ _ _ _ k.own h.box (by decide), k.ge, st4_own _ _ _ _ k.em h.box (by decide)⟩
theorem Rn.low (h : Rn w W s qb qo cap ov out) : ∀ k, ov.ownBlock = some k → w.heap.size + 2 ≤ k := fun k hk => (World.ownsRow.lt h.out k hk).1
/-- what went out grows -/
theorem Nw.app {W' : World} (h : Rn w W s qb qo cap ov out) (k : Nw w W bx g c t lv o) (hg : W.grownBy W' ov.ownBlock) : W'.heap[bx]? = some (.cells (vmC t.pc (vS g 8 c) t.halts t.fault) 25) ∧ OwnI W' (w.heap.size + 2) (vS g 8 c) t.regs ∧ W'.heap[w.heap.size]? = some (.cells (vmC s.pc (.slice (some ⟨qb, qo, none⟩) 8 cap) s.halts s.fault) 25) ∧ W'.heap[w.heap.size + 1]? = some (.cells zV 25) :=
  ⟨box_grown k.box hg (fun e => row_ne_box h.out k.box (by decide) e.symm), World.ownsRow.kept k.own hg (rows_ne k.own h.out (by decide)), box_grown h.box hg (fun e => row_ne_box h.out h.box (by decide) e.symm), box_grown h.res hg (fun e => row_ne_box h.out h.res (by decide) e.symm)⟩
/-- it grows, then the box -/
theorem Rn.nextA {W' : World} {ov' : Value} {out' : List Em} (h : Rn w W s qb qo cap ov out) (k : Nw w W bx g c t lv o) (ho : OwnEm W' (w.heap.size + 2) ov' out') (hg : W.grownBy W' ov.ownBlock) : Rn w (putW w W' t g c) t g 0 c ov' out' := by
  obtain ⟨h1, h2, h3, h4⟩ := k.app h hg
  have hs := h.sz
  exact ⟨st4_below (h.bel.grown hg h.bel.size (fun q hq => by have := h.low q hq; omega)) (Nat.le_refl _), by rw [sz_st4]; exact Nat.le_trans h.sz hg.size, st4_heap h3, (st4_other _ _ _ _ (by omega)).trans h4, row_st4 _ _ _ _ (OwnI.row8 h2) (by have := k.gl; omega), by have := k.gl; omega, st4_own _ _ _ _ ho h3 (by decide)⟩
/-- the box, then it grows -/
theorem Rn.nextB {W' : World} {ov' : Value} {out' : List Em} (h : Rn w W s qb qo cap ov out) (k : Nw w W bx g c t lv o) (ho : OwnEm W' (w.heap.size + 2) ov' out') (hg : (putW w W t g c).grownBy W' ov.ownBlock) : Rn w W' t g 0 c ov' out' := by
  have h' := h.put k
  have k' := k.put h
  obtain ⟨h1, h2, h3, h4⟩ := k'.app h' hg
  exact ⟨h'.bel.grown hg h'.bel.size (fun q hq => by have := h'.low q hq; omega), Nat.le_trans h'.sz hg.size, h3, h4, OwnI.row8 h2, h'.ne, ho⟩
end
end VmC
end Go.Proofs.Ytceflfdpbgnfjaa
