/- Contracts of package supply: Least, Most. -/
import Derived.Test.YtnbfadfhpegddaaSupE
set_option linter.unusedVariables false
namespace Go.Proofs.Ytnbfadfhpegddaa
open Go.RowKit Go.Shelf Go.Lib Go.Sort
open SpanM SupM
namespace SpanC
/-- the memory of a call that keeps a tally in block B -/
structure LBox (w W : World) (B : Nat) (size : Int) (a : Option Addr) (cap g c m : Nat) (l : List Sp) : Prop where
  be : Below w.heap.size w W
  b0 : W.cell? ⟨B, 0, none⟩ = some (.int .i64 size)
  b1 : W.cell? ⟨B, 1, none⟩ = some (.slice a l.length cap)
  b2 : W.cell? ⟨B, 2, none⟩ = some (.slice (some ⟨g, 0, none⟩) m c)
  ta : Tal W g l
theorem LBox.start {w W : World} {size : Int} {a : Option Addr} {cap g c m : Nat} {l : List Sp} (hb : Below w.heap.size w W) (ht : Tal W g l) : LBox w (W.alloc (.cells #[.int .i64 size, .slice a l.length cap, .slice (some ⟨g, 0, none⟩) m c] 84)) W.heap.size size a cap g c m l where
  be := hb.alloc hb.size _
  b0 := World.cell?_alloc_at _ _ _ _ rfl
  b1 := World.cell?_alloc_at _ _ _ _ rfl
  b2 := World.cell?_alloc_at _ _ _ _ rfl
  ta := ht.below ((Below.refl _ _).alloc (Nat.le_refl _) _)
theorem LBox.step {w W W' : World} {B : Nat} {size : Int} {a : Option Addr} {cap g c m : Nat} {l : List Sp} (h : LBox w W B size a cap g c m l) (hb : Below W.heap.size W W') : LBox w W' B size a cap g c m l where
  be := bel_of h.be hb
  b0 := (hb.cell (World.block_lt_of_cell? _ _ h.b0)).trans h.b0
  b1 := (hb.cell (World.block_lt_of_cell? _ _ h.b1)).trans h.b1
  b2 := (hb.cell (World.block_lt_of_cell? _ _ h.b2)).trans h.b2
  ta := h.ta.below hb
def leastE (size : Int) (l : List Sp) (n : Int) : Int := sE size l n 549755813888
def leastV (size : Int) (l : List Sp) (n : Int) : Int := if leastE size l n = 0 then lst size l n else 0
def mostV (size : Int) (l : List Sp) (n : Int) : Int := if leastE size l n = 0 then mst size l n else 0
end SpanC
end Go.Proofs.Ytnbfadfhpegddaa
