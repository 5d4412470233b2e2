/- Rows of api.Emit that a call makes: append behind a guard (gen_rows.py writes this text). -/
import Derived.Test.YtceflfdpbgnfjaaRowEm
set_option linter.unusedVariables false
namespace Go.Proofs.Ytceflfdpbgnfjaa
open Go.RowKit
open SpanM SpanC
namespace RowsO
/-- .. behind a guard that says yes -/
theorem wpList_appendEm_g {ops : Array Oper} {rest : List Oper} {o : Oper} {a : Act} {Q : Exit → Act → World → Prop} {w : World} (hw : Region.wanted o (yielded ops a.tmps) = true) (s x : Operand)
    (ho : o.op = .call { callee := .builtin .append, args := #[s, x], argTypes := #[26, 26] })
    (B : Nat) (v : Value) (l m : List Em) (sa : Option Addr) (len cap : Nat) (hs : a.eval s = v) (hown : OwnEm w B v l) (hx : a.eval x = .slice sa len cap) (hlen : len = m.length) (hm : Ems w sa m) (hz : sa = none → len = 0 ∧ cap = 0)
    (h63 : l.length + m.length ≤ maxLen) (hbytes : (l.length + m.length) * 16 ≤ 140737488355328) (hB : B ≤ w.heap.size)
    (h : ∀ v' w', OwnEm w' B v' (l ++ m) → w.grownBy w' v.ownBlock → wpList Try.prog ops Q rest (a.put o.dst v') w') : wpList Try.prog ops Q (o :: rest) a w := by
  obtain ⟨i0, hi, hz0, hz1, hz2⟩ := info_parts infoEm
  refine wpList_step fun K hK => ?_
  rw [if_pos hw]
  cases sa with
  | none =>
    obtain ⟨e1, rfl⟩ := hz rfl
    obtain rfl : m = [] := List.length_eq_zero_iff.1 (by omega)
    rw [e1] at hx
    have hrun := run_append_owned_none (P := Try.prog) (w := w) B 26 o.type 39 i0 2 Try.underlying26 hi v l.length (flatEm l) hown
    unfold Oper.wp
    simp [execOp, ho, resolve, invoke, builtin, hs, hx, hrun, Result.andThen]
    exact hK _ _ (h v w (by simpa using hown) ⟨rfl, rfl, rfl, Nat.le_refl _, fun _ _ _ => rfl⟩)
  | some p =>
    subst hlen
    refine wp_append_own w s x 26 ho B 39 i0 (.agg #[.int .i64 0, .int .i64 0]) 2 16 Try.underlying26 hi hz0 hz1 hz2 rfl (by decide) v l.length (flatEm l) hs hown p m.length cap (flatEm m) hx (flatEm_length m) hm.add (flatEm_one m) h63 hbytes hB ?_
    intro v' w' h1 h2 _
    refine hK _ _ (h v' w' ?_ h2)
    unfold OwnEm
    rw [flatEm_append, List.length_append]
    exact h1
end RowsO
end Go.Proofs.Ytceflfdpbgnfjaa
