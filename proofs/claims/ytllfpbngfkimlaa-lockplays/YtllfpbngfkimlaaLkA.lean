/- Package lock: what a worker and a site are in memory; isOver, isAt. -/
import Derived.Test.YtllfpbngfkimlaaLokA
import Derived.Test.YtllfpbngfkimlaaLockM5
import Derived.Test.YtllfpbngfkimlaaRowG
set_option linter.unusedVariables false
namespace Go.Proofs.Ytllfpbngfkimlaa
open Go.RowKit
open Go.Shelf Go.Sort
open SpanM SpanC IntsC
open RowsO hiding Wk
namespace LockC
open LockM
open NumC (Row)
/-- a worker: its work, its number, at which act it is, how many times of it are done -/
structure Wr where
  came : Int
  a : Option Addr
  n : Nat
  c : Nat
  num : Nat
  next : Nat
  ran : Nat
def EW : RowG.Enc Wr where
  enc := fun x => [.int .i64 x.came, .slice x.a x.n x.c, .int .i64 x.num, .int .i64 x.next, .int .i64 x.ran]
  k := 5
  hk := fun _ => rfl
  h1 := fun x u hu => by
    simp only [List.mem_cons, List.not_mem_nil, or_false] at hu
    rcases hu with rfl | rfl | rfl | rfl | rfl <;> rfl
/-- its cells -/
structure WAt (w : World) (g o : Nat) (x : Wr) : Prop where
  c0 : w.cell? ⟨g, o, none⟩ = some (.int .i64 x.came)
  c1 : w.cell? ⟨g, o + 1, none⟩ = some (.slice x.a x.n x.c)
  c2 : w.cell? ⟨g, o + 2, none⟩ = some (.int .i64 x.num)
  c3 : w.cell? ⟨g, o + 3, none⟩ = some (.int .i64 x.next)
  c4 : w.cell? ⟨g, o + 4, none⟩ = some (.int .i64 x.ran)
theorem WAt.below {w w' : World} {g o B : Nat} {x : Wr} (h : WAt w g o x) (hb : Below B w w') (hB : w.heap.size ≤ B) : WAt w' g o x := by
  have hl : g < B := by simpa using Nat.lt_of_lt_of_le (World.block_lt_of_cell? w _ h.c0) hB
  exact ⟨(hb.cell (by simpa using hl)).trans h.c0, (hb.cell (by simpa using hl)).trans h.c1, (hb.cell (by simpa using hl)).trans h.c2, (hb.cell (by simpa using hl)).trans h.c3, (hb.cell (by simpa using hl)).trans h.c4⟩
theorem WAt.drewN {w : World} {g o : Nat} {x : Wr} (h : WAt w g o x) (m : Nat) : WAt (w.drewN m) g o x := h.below (below_drewN (Below.refl _ _) m) (Nat.le_refl _)
set_option maxRecDepth 20000 in
set_option maxHeartbeats 400000 in
theorem isOver_q (w : World) (g o : Nat) (x : Wr) (h : WAt w g o x) :
    Calls Try.prog 50 #[.pointer (some ⟨g, o, none⟩)] w fun e w' => e = .returned (.bool (decide (x.next = x.n))) ∧ ∃ m, w' = w.drewN m := by
  have c1 := h.c1
  have c3 := h.c3
  have e0 : ((x.next : Int) == (x.n : Int)) = decide (x.next = x.n) := by
    by_cases q : x.next = x.n
    · simp [q]
    · rw [decide_eq_false q]; simp; omega
  have HE := hid e0
  clear e0
  obtain ⟨came, a, n, c, num, next, ran⟩ := x
  simp only at *
  go_enter Try.func50, Try.ntmps50
  go_wp2_with fail
  go_quiet (fail)
  go_wp2_with fail
  go_ret
  exact ⟨by rw [HE.out]; rfl, _, rfl⟩
set_option maxRecDepth 20000 in
set_option maxHeartbeats 400000 in
theorem isAt_over (w : World) (g o : Nat) (x : Wr) (K : Int) (h : WAt w g o x) (hn : x.next = x.n) :
    Calls Try.prog 59 #[.pointer (some ⟨g, o, none⟩), .int .i64 K] w fun e w' => e = .returned (.bool false) ∧ ∃ m, w' = w.drewN m := by
  have HC := hid (fun m => isOver_q (w.drewN m) g o x (h.drewN m))
  rw [decide_eq_true hn] at HC
  go_enter Try.func59, Try.ntmps59
  go_wp2_with fail
  go_quiet ((go_at_call 50; exact Calls.quiet_of (HC.out _)))
  go_wp2_with fail
  go_ret
  exact ⟨rfl, _, rfl⟩
set_option maxRecDepth 20000 in
set_option maxHeartbeats 400000 in
theorem isAt_kind (w : World) (g o : Nat) (x : Wr) (K : Int) (l : List LockM.Ac) (h : WAt w g o x) (hl : x.n = l.length) (hn : x.next < l.length) (hr : Acs w x.a l) :
    Calls Try.prog 59 #[.pointer (some ⟨g, o, none⟩), .int .i64 K] w fun e w' => e = .returned (.bool (decide ((l.getD x.next zAc).1 = K))) ∧ ∃ m, w' = w.drewN m := by
  have HC := hid (fun m => isOver_q (w.drewN m) g o x (h.drewN m))
  rw [decide_eq_false (show ¬ x.next = x.n by omega)] at HC
  obtain ⟨b, off, ha, _, d1, d2⟩ := hr.at x.next hn
  have e0 : (((l.getD x.next zAc).1 : Int) == K) = decide ((l.getD x.next zAc).1 = K) := rfl
  have HE := hid e0
  clear e0
  generalize (l.getD x.next zAc).1 = k at *
  have c1 := h.c1
  have c3 := h.c3
  have i1 : (x.next : Int) < (x.n : Int) := by omega
  obtain ⟨came, a, n, c, num, next, ran⟩ := x
  simp only at *
  subst ha
  clear hr h
  go_enter Try.func59, Try.ntmps59
  go_wp2_with fail
  go_quiet ((go_at_call 50; exact Calls.quiet_of (HC.out _)))
  go_wp2_with fail
  go_ret
  exact ⟨by rw [← HE.out]; rfl, _, rfl⟩
end LockC
end Go.Proofs.Ytllfpbngfkimlaa
