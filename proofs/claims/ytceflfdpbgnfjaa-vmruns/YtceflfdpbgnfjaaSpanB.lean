/- Spans in memory. -/
import Derived.Test.YtceflfdpbgnfjaaChecked
import Derived.Test.YtceflfdpbgnfjaaSpanM
import Derived.WalkKit
import Derived.ProofKit
import Derived.OpenShut
import Derived.Handy
import Derived.Below
import Derived.Deep.QuietTactic
import Derived.Lib.SliceRun
set_option linter.unusedVariables false
namespace Go.Proofs.Ytceflfdpbgnfjaa
open Go.RowKit
open SpanM
namespace SpanC
/-- the spans that lie at a -/
def Sps (w : World) (a : Option Addr) (l : List Sp) : Prop :=
  l = [] ∨ ∃ b off, a = some ⟨b, off, none⟩ ∧ ∀ i, i < l.length → w.cell? ⟨b, off + i * 2, none⟩ = some (.int .i64 (l.getD i (0, 0)).1) ∧ w.cell? ⟨b, off + i * 2 + 1, none⟩ = some (.int .i64 (l.getD i (0, 0)).2)

theorem Sps.below {w w' : World} {a : Option Addr} {l : List Sp} {B : Nat} (h : Sps w a l) (hb : Below B w w') (hB : w.heap.size ≤ B) : Sps w' a l := by
  rcases h with rfl | ⟨b, off, rfl, h⟩
  · exact .inl rfl
  · refine .inr ⟨b, off, rfl, fun i hi => ?_⟩
    obtain ⟨h1, h2⟩ := h i hi
    have hlt := World.block_lt_of_cell? w _ h1
    exact ⟨(hb.cell (by simpa using Nat.lt_of_lt_of_le hlt hB)).trans h1, (hb.cell (by simpa using Nat.lt_of_lt_of_le hlt hB)).trans h2⟩

/-- one of them, and that its block is an old one -/
theorem Sps.at {w : World} {a : Option Addr} {l : List Sp} (h : Sps w a l) (k : Nat) (hk : k < l.length) :
    ∃ b off, a = some ⟨b, off, none⟩ ∧ b < w.heap.size ∧ w.cell? ⟨b, off + k * 2, none⟩ = some (.int .i64 (l.getD k (0, 0)).1) ∧ w.cell? ⟨b, off + k * 2 + 1, none⟩ = some (.int .i64 (l.getD k (0, 0)).2) := by
  rcases h with rfl | ⟨b, off, rfl, h⟩
  · simp at hk
  · obtain ⟨h1, h2⟩ := h k hk
    exact ⟨b, off, rfl, World.block_lt_of_cell? w _ h1, h1, h2⟩

/-- .. behind a block of the call's own -/
theorem Sps.get {w wr : World} {a : Option Addr} {l : List Sp} {o : Obj} (h : Sps w a l) (hb : Below (w.heap.size + 1) (w.alloc o) wr) (k : Nat) (hk : k < l.length) :
    ∃ b off, a = some ⟨b, off, none⟩ ∧ b < w.heap.size ∧ wr.cell? ⟨b, off + k * 2, none⟩ = some (.int .i64 (l.getD k (0, 0)).1) ∧ wr.cell? ⟨b, off + k * 2 + 1, none⟩ = some (.int .i64 (l.getD k (0, 0)).2) := by
  obtain ⟨b, off, rfl, hbw, c1, c2⟩ := h.at k hk
  exact ⟨b, off, rfl, hbw, (hb.cell (by simp; omega)).trans (Lib.cell?_alloc_some _ c1), (hb.cell (by simp; omega)).trans (Lib.cell?_alloc_some _ c2)⟩

theorem of_alloc {w wr : World} {o : Obj} (hb : Below (w.heap.size + 1) (w.alloc o) wr) : Below w.heap.size w wr :=
  ((Below.refl _ _).alloc (Nat.le_refl _) _).trans (hb.mono (by omega))
theorem bel_of {w a b : World} (h : Below w.heap.size w a) (k : Below a.heap.size a b) : Below w.heap.size w b := h.trans (k.mono h.size)

theorem below_drewN {B : Nat} {a w : World} (h : Below B a w) (n : Nat) : Below B a (w.drewN n) := ⟨h.os, h.tape, h.output, h.size, h.block⟩

theorem box1 {w w1 : World} {o : Obj} (h : Below (w.alloc o).heap.size (w.alloc o) w1) : Below (w.heap.size + 1) (w.alloc o) w1 := by simpa using h
theorem box2 {w a b : World} {o : Obj} (h : Below (w.heap.size + 1) (w.alloc o) a) (k : Below a.heap.size a b) : Below (w.heap.size + 1) (w.alloc o) b :=
  h.trans (k.mono (by have := h.size; simpa using this))
theorem boxc {w W : World} {c : Array Value} {t : TypeId} (h : Below (w.heap.size + 1) (w.alloc (.cells c t)) W) (i : Nat) : W.cell? ⟨w.heap.size, i, none⟩ = c[i]? :=
  (h.cell (by simp)).trans (World.cell?_alloc_at _ _ _ _ rfl)

/-- a world in which all that lay in w lies as it was -/
structure BelowOf (w : World) where
  w' : World
  hb : Below w.heap.size w w'
instance (w : World) : Inhabited (BelowOf w) := ⟨⟨w, Below.refl _ _⟩⟩
theorem wp_region_quiet_below {P : Program} {id : Nat} {Q : Exit → Act → World → Prop} {a : Act} {w : World} {l : List Oper} (hm : P.follows .mixedOrders = true) (hB : Region.lexB .any l.toArray = true)
    (h : wpQuiet P l.toArray (fun w' => ∃ p : BelowOf w, w' = p.w') (fun a' => ∀ w', (∃ p : BelowOf w, w' = p.w') → Q .normal a' w') l a) : (Code.region id l.toArray true).wp P Q a w :=
  wp_region_quiet (C := fun w' => ∃ p : BelowOf w, w' = p.w') hm hB ⟨⟨w.drew, (Below.refl _ _).drew⟩, rfl⟩ (by simpa using h)
theorem Calls.below_of {P : Program} {f : FuncId} {args : Array Value} {w : World} {v : Value} (p : BelowOf w)
    (h : Calls P f args p.w' fun e w' => e = .returned v ∧ Below p.w'.heap.size p.w' w') : Calls P f args p.w' fun e w'' => e = .returned v ∧ ∃ p' : BelowOf w, w'' = p'.w' :=
  h.mono fun _ w'' ⟨he, hb⟩ => ⟨he, ⟨w'', bel_of p.hb hb⟩, rfl⟩
theorem BelowOf.cell {w : World} {a : Addr} {v : Value} (h : w.cell? a = some v) (p : BelowOf w) : p.w'.cell? a = some v :=
  (p.hb.cell (World.block_lt_of_cell? w _ h)).trans h

theorem ret_int {k : IntKind} {a b : Int} (h : a = b) : Ending.returned (.int k a) = .returned (.int k b) := by rw [h]
/-- what Check says -/
def chkG (size : Int) (l : List Sp) : Int := if good size (-1) l = true then 0 else 4
def chk (size : Int) (l : List Sp) : Int := if 1 ≤ size ∧ size ≤ 1000000 then (if 200 < l.length then 2 else chkG size l) else 1
theorem chk_zero {size : Int} {l : List Sp} (h : chk size l = 0) : 1 ≤ size ∧ size ≤ 1000000 ∧ l.length ≤ 200 ∧ good size (-1) l = true := by
  unfold chk chkG at h
  split at h
  · split at h
    · simp at h
    · split at h
      · exact ⟨by omega, by omega, by omega, ‹_›⟩
      · simp at h
  · simp at h
theorem chk_of {size : Int} {l : List Sp} (h1 : 1 ≤ size) (h2 : size ≤ 1000000) (h3 : l.length ≤ 200) (h4 : good size (-1) l = true) : chk size l = 0 := by
  unfold chk chkG
  rw [if_pos ⟨h1, h2⟩, if_neg (by omega), if_pos h4]
end SpanC
end Go.Proofs.Ytceflfdpbgnfjaa
