/- LockNever; what a told play is in memory. -/
import Derived.Test.YteekbhnciapmjaaLkU
import Derived.Test.YteekbhnciapmjaaLkS
set_option linter.unusedVariables false
namespace Go.Proofs.Yteekbhnciapmjaa
open Go.RowKit
open Go.Shelf Go.Sort
open SpanM SpanC IntsC
open RowsO hiding Wk
namespace LockC
open LockM
open NumC (Row)
/-- a told play: its box, and the rows in it -/
structure TP (w wr : World) (bx : Nat) (v1 v2 : Value) (R N : List Int) : Prop where
  bel : Below w.heap.size w wr
  box : wr.heap[bx]? = some (.cells #[v1, v2, .int .i64 0] 34)
  r : OwnI wr w.heap.size v1 R
  e : OwnI wr w.heap.size v2 N
theorem TP.start {w w1 : World} {v1 v2 : Value} {R N : List Int} (hb : Below w.heap.size w w1) (h1 : OwnI w1 w.heap.size v1 R) (h2 : OwnI w1 w.heap.size v2 N) : TP w (w1.alloc (.cells #[v1, v2, .int .i64 0] 34)) w1.heap.size v1 v2 R N :=
  ⟨hb.alloc hb.size _, box_new _ _ _, World.ownsRow.alloc h1 _, World.ownsRow.alloc h2 _⟩
theorem TP.step {w wr w' : World} {bx : Nat} {v1 v2 : Value} {R N : List Int} (h : TP w wr bx v1 v2 R N) (hb : Below wr.heap.size wr w') : TP w w' bx v1 v2 R N :=
  ⟨h.bel.trans (hb.mono h.bel.size), box_below h.box hb (Nat.le_refl _), h.r.below hb (Nat.le_refl _), h.e.below hb (Nat.le_refl _)⟩
theorem TP.alloc {w wr : World} {bx : Nat} {v1 v2 : Value} {R N : List Int} (h : TP w wr bx v1 v2 R N) (o : Obj) : TP w (wr.alloc o) bx v1 v2 R N := h.step ((Below.refl _ _).alloc (Nat.le_refl _) _)
theorem TP.c0 {w wr : World} {bx : Nat} {v1 v2 : Value} {R N : List Int} (h : TP w wr bx v1 v2 R N) : wr.cell? ⟨bx, 0, none⟩ = some v1 := box_cell h.box 0
theorem TP.c1 {w wr : World} {bx : Nat} {v1 v2 : Value} {R N : List Int} (h : TP w wr bx v1 v2 R N) : wr.cell? ⟨bx, 1, none⟩ = some v2 := box_cell h.box 1
theorem TP.c2 {w wr : World} {bx : Nat} {v1 v2 : Value} {R N : List Int} (h : TP w wr bx v1 v2 R N) : wr.cell? ⟨bx, 2, none⟩ = some (.int .i64 0) := box_cell h.box 2
theorem TP.lt {w wr : World} {bx : Nat} {v1 v2 : Value} {R N : List Int} (h : TP w wr bx v1 v2 R N) : bx < wr.heap.size := (Array.getElem?_eq_some_iff.1 h.box).1
set_option maxRecDepth 20000 in
set_option maxHeartbeats 400000 in
theorem lockNever_walk (a0 : Option Addr) (len0 cap0 : Nat) (l0 : List RowsO.Wk) (a1 : Int) (w : World) (w0 : RowsO.IsWks w a0 len0 cap0 l0) (w1 : SpanC.wf64 a1) :
    Calls Try.prog 5 #[.slice a0 len0 cap0, .int .i64 a1] w fun e w' => e = .returned (.bool true) ∧ Below w.heap.size w w' := by
  obtain ⟨rfl, hc, _, hr, _⟩ := w0
  have HPL := hid (Play_any l0 a1 a0 cap0 w hr)
  have HLV := hid (fun wx => lives wx)
  generalize plyR l0 a1 = R at *
  generalize plyN l0 a1 = N at *
  clear hr w1
  by_cases he : plyE l0 a1 = 0
  · rw [he] at HPL
    clear he
    go_enter Try.func5, Try.ntmps5
    go_wp2_with (first | (go_at_call 17; refine HPL.out.mono ?_; rintro e w1 ⟨⟨v1, v2, rfl, ho1, ho2⟩, hb1⟩; have T1 := hid (TP.start hb1 (OwnI.base' ho1 (Nat.le_succ _)) (OwnI.base' ho2 (Nat.le_succ _))); obtain ⟨a1, n1, c1, rfl⟩ := OwnI.slice ho1; obtain ⟨a2, n2, c2, rfl⟩ := OwnI.slice ho2; clear ho1 ho2 hb1) | (go_at_call 20; refine (HLV.out _).mono ?_; rintro e w2 ⟨rfl, hb2⟩; have T2 := hid (T1.out.step hb2); have y2 := T2.out.c2; clear hb2))
    go_ret
    exact ⟨rfl, T2.out.bel⟩
  · have hne : (plyE l0 a1 != 0) = true := by simpa using he
    generalize plyE l0 a1 = q at *
    clear he
    go_enter Try.func5, Try.ntmps5
    go_wp2_with (first | (go_at_call 17; refine HPL.out.mono ?_; rintro e w1 ⟨⟨v1, v2, rfl, ho1, ho2⟩, hb1⟩; have T1 := hid (TP.start hb1 (OwnI.base' ho1 (Nat.le_succ _)) (OwnI.base' ho2 (Nat.le_succ _))); obtain ⟨a1, n1, c1, rfl⟩ := OwnI.slice ho1; obtain ⟨a2, n2, c2, rfl⟩ := OwnI.slice ho2; clear ho1 ho2 hb1) | (go_at_call 20; refine (HLV.out _).mono ?_; rintro e w2 ⟨rfl, hb2⟩; have T2 := hid (T1.out.step hb2); have y2 := T2.out.c2; clear hb2))
    go_ret
    exact ⟨rfl, T2.out.bel⟩
end LockC
end Go.Proofs.Yteekbhnciapmjaa
