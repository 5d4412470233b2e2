/- The bulk of what is read bounds the lengths of its lists of spans (the second form). -/
import Derived.Test.YtlhkjdghefbnfaaRows
import Derived.Test.YtlhkjdghefbnfaaSpanO
set_option linter.unusedVariables false
namespace Go.Proofs.Ytlhkjdghefbnfaa
open Go.RowKit Go.ChangeShapes Go.WideShapes Go.ChangeAt
open SpanM
namespace SpanC
theorem bulk_bound {H : Type} {l : List (DataW H)} (hk : Rows.uptoSmall H l = true) : Rows.uptoBulkAll l ≤ 1048576 := of_decide_eq_true hk
theorem bulk_len {H : Type} (l : List (DataW H)) : (∀ d ∈ l, 1 ≤ Rows.uptoBulk d) → l.length ≤ Rows.uptoBulkAll l := by
  induction l with
  | nil => intro _; simp
  | cons x r ih =>
    intro h
    have h1 := h x (by simp)
    have h2 := ih (fun d hd => h d (by simp [hd]))
    simp only [Rows.uptoBulkAll, List.length_cons]
    omega
theorem bulk_spans {H : Type} {enc : TypeId × Value → H} {W : World} {base fuel : Nat} {spare : Nat → Bool} {held : Bool} {a : Option Addr} {len cap : Nat} {x : DataW H × List MemPlace}
    (h : DataW.trod enc Try.prog W base spare held fuel 22 [.slice a len cap] = some x) : len ≤ Rows.uptoBulk x.1 := by
  rcases Deep.open_slice_pairs Try.underlying22 Try.underlying30 (by kernel_rfl) rfl rfl (by kernel_rfl) (by kernel_rfl) h with ⟨hcs, _⟩ | ⟨p, n, c, m, q, V0, V1, D0, D1, P0, P1, hcs, _, hl, hm, hmm, hx, _⟩
  · simp at hcs
    omega
  · simp at hcs
    obtain ⟨rfl, rfl, rfl⟩ := hcs
    subst hx
    have hb := bulk_len ((List.range len).map fun i => DataW.agg [D0 i, D1 i]) (by intro d hd; obtain ⟨i, _, rfl⟩ := List.mem_map.1 hd; simp [Rows.uptoBulk])
    rw [List.length_map, List.length_range] at hb
    simp only [Rows.uptoBulk]
    omega
theorem open_spans_upto {H : Type} {enc : TypeId × Value → H} {W : World} {base fuel : Nat} {spare : Nat → Bool} {held : Bool} {a : Option Addr} {len cap : Nat} {d : DataW H} {ps : List MemPlace}
    (h : DataW.trod enc Try.prog W base spare held fuel 22 [.slice a len cap] = some (d, ps)) : ∃ l, IsSps W a len cap l ∧ len ≤ Rows.uptoBulk d := by
  obtain ⟨l, hl⟩ := open_spans h
  exact ⟨l, hl, bulk_spans h⟩
set_option maxRecDepth 100000 in
theorem bulk_set {H : Type} {enc : TypeId × Value → H} {W : World} {base : Nat} {spare : Nat → Bool} {held : Bool} {size : Int} {a : Option Addr} {len cap : Nat} {d : DataW H} {ps : List MemPlace}
    (h : DataW.Trod enc Try.prog W base spare held 24 (.agg #[.int .i64 size, .slice a len cap]) d ps) : len ≤ Rows.uptoBulk d := by
  obtain ⟨fuel, hf⟩ := h
  obtain ⟨xs, n, _, hx, hlen, hxl, hfs⟩ := DataW.trod_struct Try.underlying24 hf
  have c1 : Try.prog.cellsOf 22 = 1 := by kernel_rfl
  have g1 : DataW.trod enc Try.prog W base spare held n 22 ((([.int .i64 size, .slice a len cap] : List Value).drop 1).take (Try.prog.cellsOf 22)) = xs[1]? := hfs 1 _ rfl
  rw [c1] at g1
  match xs, hxl with
  | [y0, y1], _ =>
    simp only [List.take_succ_cons, List.take_zero, List.drop_succ_cons, List.drop_zero, List.getElem?_cons_zero, List.getElem?_cons_succ] at g1
    have hb := bulk_spans g1
    simp only [Prod.mk.injEq] at hx
    obtain ⟨rfl, _⟩ := hx
    simp only [Rows.uptoBulk, Rows.uptoBulkAll, List.map_cons, List.map_nil]
    omega
set_option maxRecDepth 100000 in
theorem open_set_upto {H : Type} {enc : TypeId × Value → H} {W : World} {base : Nat} {r : Reach} {b0 : Nat} {spare : Nat → Bool} {held : Bool} {v : Value} {d : DataW H} {ps : List MemPlace}
    (hv : Value.okWide Try.prog W r b0 24 v) (h : DataW.Trod enc Try.prog W base spare held 24 v d ps) :
    ∃ size a len cap l, v = .agg #[.int .i64 size, .slice a len cap] ∧ wf64 size ∧ IsSps W a len cap l ∧ len ≤ Rows.uptoBulk d := by
  obtain ⟨size, a, len, cap, l, rfl, h1, h2⟩ := open_set hv h
  exact ⟨size, a, len, cap, l, rfl, h1, h2, bulk_set h⟩
end SpanC
end Go.Proofs.Ytlhkjdghefbnfaa
