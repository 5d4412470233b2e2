/- Contracts of package play: jobsOf. -/
import Derived.Test.YtnbfadfhpegddaaPlyA
set_option linter.unusedVariables false
namespace Go.Proofs.Ytnbfadfhpegddaa
open Go.RowKit hiding tok
open SpanM SpanC TaskM PlayM
open RowsO hiding Tk
namespace PlayC
open TaskC (tk_snoc tk_mem)
open NumC (Row)
open RowG
/-- a job: task, number, came, at, due, left, rank -/
structure Jb where
  t : Int
  k : Int
  c : Int
  a : Int
  d : Int
  f : Int
  r : Int
def EJ : Enc Jb := ⟨fun x => [.int .i64 x.t, .int .i64 x.k, .int .i64 x.c, .int .i64 x.a, .int .i64 x.d, .int .i64 x.f, .int .i64 x.r], 7, fun _ => rfl, fun x u hu => by simp at hu; rcases hu with rfl | rfl | rfl | rfl | rfl | rfl | rfl <;> rfl⟩
def ED : Enc Pl.Dn := ⟨fun x => [.int .i64 x.1, .int .i64 x.2.1, .int .i64 x.2.2.1, .int .i64 x.2.2.2], 4, fun _ => rfl, fun x u hu => by simp at hu; rcases hu with rfl | rfl | rfl | rfl <;> rfl⟩
def EL : Enc (Int × Int) := ⟨fun x => [.int .i64 x.1, .int .i64 x.2], 2, fun _ => rfl, fun x u hu => by simp at hu; rcases hu with rfl | rfl <;> rfl⟩
/-- a box of another type is another block -/
theorem own_ne {α : Type} {E : Enc α} {T T' bx B : Nat} {w : World} {v : Value} {l : List α} {c : Array Value} {z : Nat × Nat} (h : Own E T w B v l) (hb : w.heap[bx]? = some (.cells c T' z)) (hT : T' ≠ T) : some bx ≠ v.ownBlock := by
  rcases h.2 with ⟨rfl, _⟩ | ⟨g, cap, cur, rfl, _, hg, _⟩
  · simp [Value.ownBlock]
  · intro e
    simp only [Value.ownBlock, Option.some.injEq] at e
    rw [e, hg] at hb
    injection hb with hb
    injection hb with _ h2 _
    exact hT h2.symm
theorem box_cell {w : World} {bx T : Nat} {c : Array Value} {z : Nat × Nat} (h : w.heap[bx]? = some (.cells c T z)) (j : Nat) : w.cell? ⟨bx, j, none⟩ = c[j]? := by
  simp [World.cell?, h]
theorem box_below {w w' : World} {bx T B : Nat} {c : Array Value} {z : Nat × Nat} (h : w.heap[bx]? = some (.cells c T z)) (hb : Below B w w') (hB : w.heap.size ≤ B) : w'.heap[bx]? = some (.cells c T z) := by
  have := (Array.getElem?_eq_some_iff.1 h).1
  rw [hb.block bx (by omega), h]
theorem box_grown {w w' : World} {bx T : Nat} {row : Option Nat} {c : Array Value} {z : Nat × Nat} (h : w.heap[bx]? = some (.cells c T z)) (hb : w.grownBy w' row) (hn : some bx ≠ row) : w'.heap[bx]? = some (.cells c T z) := by
  have := (Array.getElem?_eq_some_iff.1 h).1
  rw [hb.block bx this hn, h]
theorem box_alloc {w : World} {bx T : Nat} {c : Array Value} {z : Nat × Nat} (h : w.heap[bx]? = some (.cells c T z)) (o : Obj) : (w.alloc o).heap[bx]? = some (.cells c T z) := by
  have := (Array.getElem?_eq_some_iff.1 h).1
  show (w.heap.push o)[bx]? = _
  rw [Array.getElem?_push, if_neg (by omega), h]
theorem box_new (w : World) (c : Array Value) (T : Nat) : (w.alloc (.cells c T)).heap[w.heap.size]? = some (.cells c T) := heap_alloc_new w _
theorem own_alloc {α : Type} {E : Enc α} {T B : Nat} {w : World} {v : Value} {l : List α} (h : Own E T w B v l) (o : Obj) : Own E T (w.alloc o) B v l := World.ownsRow.alloc h o
/-- the job of a task, as it comes -/
def jb (P : Pl) (b : Nat × Nat) : Jb := ⟨b.1, b.2, P.cm b.1 b.2, 0, P.du b.1 b.2, (P.tk b.1).1, 0⟩
theorem cm_succ (P : Pl) (i k : Nat) : P.cm i (k + 1) = P.cm i k + (P.tk i).2.1 := by
  unfold Pl.cm
  rw [Int.natCast_add, Int.add_mul]; simp; omega
theorem cm_zero (P : Pl) (i : Nat) : P.cm i 0 = P.f.getD i 0 := by unfold Pl.cm; simp
end PlayC
end Go.Proofs.Ytnbfadfhpegddaa
