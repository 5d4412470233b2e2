/- Sums ahead of spans, in memory: tallyOf. -/
import Derived.Test.YtceflfdpbgnfjaaSpanW
import Derived.Test.YtceflfdpbgnfjaaSupM2
import Derived.Lib.OwnBridge
set_option linter.unusedVariables false
namespace Go.Proofs.Ytceflfdpbgnfjaa
open Go.RowKit
open SpanM SupM
namespace SpanC
theorem infoInt : (Try.prog.info? 3).map (fun i => (i.zero, i.size, i.bytes)) = some (some (.int .i64 0), 1, 8) := by kernel_rfl
/-- numbers that a call has made -/
def OwnI (w : World) (B : Nat) (v : Value) (zs : List Int) : Prop := w.ownsRow B 3 1 v zs.length (zs.map (Value.int .i64))
theorem OwnI.form {w : World} {B : Nat} {v : Value} {l : List Int} (h : OwnI w B v l) : (v = .slice none 0 0 ∧ l = []) ∨ ∃ g cap, v = .slice (some ⟨g, 0, none⟩) l.length cap ∧ B ≤ g ∧ g < w.heap.size ∧ l.length ≤ cap ∧ cap ≤ maxLen := by
  rcases h.2 with ⟨rfl, h0⟩ | ⟨g, cap, cur, rfl, hb, hg, h1, h2, _⟩
  · exact .inl ⟨rfl, List.length_eq_zero_iff.1 h0⟩
  · exact .inr ⟨g, cap, rfl, hb, (Array.getElem?_eq_some_iff.1 hg).1, h1, h2⟩
theorem OwnI.slice {w : World} {B : Nat} {v : Value} {l : List Int} (h : OwnI w B v l) : ∃ a n c, v = .slice a n c := by
  rcases h.form with ⟨rfl, _⟩ | ⟨g, cap, rfl, _⟩
  · exact ⟨_, _, _, rfl⟩
  · exact ⟨_, _, _, rfl⟩
theorem OwnI.below {w w' : World} {B C : Nat} {v : Value} {l : List Int} (h : OwnI w B v l) (hb : Below C w w') (hC : w.heap.size ≤ C) : OwnI w' B v l :=
  World.ownsRow.kept h (grown_of_below hb hC none) (by cases v.ownBlock <;> simp)
theorem OwnI.cell {w : World} {B g cap n : Nat} {l : List Int} (h : OwnI w B (.slice (some ⟨g, 0, none⟩) n cap) l) (k : Nat) (hk : k < l.length) : w.cell? ⟨g, k, none⟩ = some (.int .i64 (l.getD k 0)) := by
  have hn : n = l.length := by
    rcases h.form with ⟨e, _⟩ | ⟨g', cp, e, _⟩
    · simp at e
    · simp only [Value.slice.injEq] at e; exact e.2.1
  subst hn
  have := World.ownsRow.cellAt h k (by omega)
  rw [this]; simp [hk, List.getD]
/-- 'make([]int, 1, n)' -/
theorem wpList_make_one {P : Program} (w : World) {ops : Array Oper} {rest : List Oper} {o : Oper} {a : Act} {Q : Exit → Act → World → Prop}
    (hg : o.guard = none) (l c : Operand) (t : TypeId) (hop : o.op = Op.makeSlice t l c)
    (base : Nat) (e : TypeId) (i : TypeInfo) (h1 : P.underlying t = some (.slice e)) (h2 : P.info? e = some i) (h3 : i.zero = some (.int .i64 0)) (h4 : i.size = 1) (h5 : i.bytes = 8)
    (kl kc : IntKind) (C : Int) (n : Nat) (hl : a.eval l = .int kl 1) (hc : a.eval c = .int kc C) (hC : C = (n : Int)) (b1 : 1 ≤ n) (b2 : n ≤ 1000000) (b4 : base ≤ w.heap.size)
    (hK : ∀ w', w'.ownsRow base e 1 (.slice (some ⟨w.heap.size, 0, none⟩) 1 n) 1 [.int .i64 0] → w.grownBy w' none → wpList P ops Q rest (a.put o.dst (.slice (some ⟨w.heap.size, 0, none⟩) 1 n)) w') :
    wpList P ops Q (o :: rest) a w := by
  refine wpList_plain hg fun K hK' => ?_
  subst hC
  have hrun := run_make (P := P) w t e i (.int .i64 0) h1 h2 h3 kl kc 1 n (by omega) (by omega) (by rw [h5]; omega) (by omega)
  have own : (w.alloc (.cells (madeCells (Value.int .i64 0).cells ((n : Int).toNat * i.size)) e)).ownsRow base e 1 (.slice (some ⟨w.heap.size, 0, none⟩) 1 n) 1 [.int .i64 0] := by
    refine ⟨rfl, .inr ⟨w.heap.size, n, madeCells (Value.int .i64 0).cells ((n : Int).toNat * i.size), rfl, b4, heap_alloc_new w _, b1, by unfold maxLen; omega, by rw [size_madeCells, h4]; simp, ?_⟩⟩
    rw [h4]
    obtain ⟨m, rfl⟩ : ∃ m, n = m + 1 := ⟨n - 1, by omega⟩
    apply List.ext_getElem
    · simp [size_madeCells]
    · intro j ha hb
      have : j = 0 := by simpa using hb
      subst this
      simp [madeCells, Value.cells]
  unfold Oper.wp
  simp only [Int.toNat_natCast] at hrun own
  simp [execOp, hop, hl, hc, hrun, Result.andThen]
  exact hK' _ _ (hK _ own (World.grownBy_alloc w _ none))
/-- the sums ahead of spans, in block g -/
def Tal (w : World) (g : Nat) (l : List Sp) : Prop := ∀ i, i ≤ l.length → w.cell? ⟨g, i, none⟩ = some (.int .i64 (ah l i))
theorem Tal.below {w w' : World} {g : Nat} {l : List Sp} (h : Tal w g l) (hb : Below w.heap.size w w') : Tal w' g l := fun i hi =>
  (hb.cell (World.block_lt_of_cell? w _ (h i hi))).trans (h i hi)
def ahL (l : List Sp) (k : Nat) : List Int := (List.range (k + 1)).map (ah l)
theorem ahL_len (l : List Sp) (k : Nat) : (ahL l k).length = k + 1 := by simp [ahL]
theorem ahL_get (l : List Sp) (k i : Nat) (h : i ≤ k) : (ahL l k).getD i 0 = ah l i := by
  unfold ahL; simp [List.getD, show i < k + 1 by omega]
theorem ahL_succ (l : List Sp) (k : Nat) : ahL l (k + 1) = ahL l k ++ [ah l (k + 1)] := by
  unfold ahL; rw [List.range_succ (n := k + 1)]; simp
theorem ahL_zero (l : List Sp) : ahL l 0 = [0] := by simp [ahL, ah_zero]
end SpanC
end Go.Proofs.Ytceflfdpbgnfjaa
