/- Package lock: hand. -/
import Derived.Test.YtllfpbngfkimlaaLkB
set_option linter.unusedVariables false
namespace Go.Proofs.Ytllfpbngfkimlaa
open Go.RowKit
open Go.Shelf Go.Sort
open SpanM SpanC IntsC
open RowsO hiding Wk
namespace LockC
open LockM
open NumC (Row)
variable {W : World} {B sb g cap : Nat} {cl own : List Int} {ws : List Wr}
theorem acs_drewN {w : World} {a : Option Addr} {l : List RowsO.Ac} (h : Acs w a l) (m : Nat) : Acs (w.drewN m) a l := h.below (below_drewN (Below.refl _ _) m) (Nat.le_refl _)
set_option maxRecDepth 20000 in
set_option maxHeartbeats 400000 in
theorem hand_drop (h : Sit W B sb g cap cl own ws) (i : Nat) (hi : i < ws.length) (x : Wr) (hx : ws[i] = x) (l : List LockM.Ac) (hl : x.n = l.length) (hn : x.next < l.length) (hm : x.next ≤ 100000) (hr : Acs W x.a l) (k : Nat) (hk : k < 8) (e3 : l.getD x.next zAc = (3, (k : Int))) :
    Calls Try.prog 60 #[.pointer (some ⟨sb, 0, none⟩), .pointer (some ⟨g, i * 5, none⟩)] W fun e W' => e = .returned (.bool true) ∧ Sit W' B sb g cap cl (own.set k (-1)) (ws.set i { x with next := x.next + 1 }) ∧ Ch sb (some g) W W' := by
  subst hx
  have hw := h.wat hi
  have HK := hid (fun m => isAt_kind (W.drewN m) g (i * 5) ws[i] 3 l (hw.drewN m) hl hn (acs_drewN hr m))
  rw [e3] at HK
  obtain ⟨b, off, ha, _, d1, d2⟩ := hr.at ws[i].next hn
  rw [e3] at d1 d2
  simp only at d1 d2
  have c1 := hw.c1
  have c3 := hw.c3
  have o1 := h.co hk
  have f1 := h.fro (9 + k)
  have f2 := h.fro_row (i * 5 + 3)
  have hne := h.ne
  have HS := hid h
  have i1 : (ws[i].next : Int) < (ws[i].n : Int) := by omega
  have i2 : (k : Int) < 8 := by omega
  rw [ha] at c1
  clear hw h hr
  go_enter Try.func60, Try.ntmps60
  go_wp2_with fail
  go_quiet (fail)
  go_wp2_with (go_at_call 59; refine Calls.mono (HK.out _) ?_; rintro e w1 ⟨rfl, m1, rfl⟩)
  go_ret
  exact ⟨rfl, ((HS.out.drewN _).setOwn hk (-1)).setNext hi (ws[i].next + 1), (((Ch.refl _ _ _).drewN _).set _ _).row _ _⟩
set_option maxRecDepth 20000 in
set_option maxHeartbeats 400000 in
theorem hand_take (h : Sit W B sb g cap cl own ws) (i : Nat) (hi : i < ws.length) (x : Wr) (hx : ws[i] = x) (l : List LockM.Ac) (hl : x.n = l.length) (hn : x.next < l.length) (hm : x.next ≤ 100000) (hr : Acs W x.a l) (k : Nat) (hk : k < 8) (e3 : l.getD x.next zAc = (2, (k : Int))) (hfree : own.getD k 0 = -1) :
    Calls Try.prog 60 #[.pointer (some ⟨sb, 0, none⟩), .pointer (some ⟨g, i * 5, none⟩)] W fun e W' => e = .returned (.bool true) ∧ Sit W' B sb g cap cl (own.set k x.num) (ws.set i { x with next := x.next + 1 }) ∧ Ch sb (some g) W W' := by
  subst hx
  have hw := h.wat hi
  have HK := hid (fun m => isAt_kind (W.drewN m) g (i * 5) ws[i] 3 l (hw.drewN m) hl hn (acs_drewN hr m))
  rw [e3] at HK
  obtain ⟨b, off, ha, _, d1, d2⟩ := hr.at ws[i].next hn
  rw [e3] at d1 d2
  simp only at d1 d2
  have c1 := hw.c1
  have c2 := hw.c2
  have c3 := hw.c3
  have o1 := h.co hk
  rw [hfree] at o1
  have f1 := h.fro (9 + k)
  have f2 := h.fro_row (i * 5 + 3)
  have hne := h.ne
  have HS := hid h
  have i1 : (ws[i].next : Int) < (ws[i].n : Int) := by omega
  have i2 : (k : Int) < 8 := by omega
  rw [ha] at c1
  clear hw h hr
  go_enter Try.func60, Try.ntmps60
  go_wp2_with fail
  go_quiet (fail)
  go_wp2_with (go_at_call 59; refine Calls.mono (HK.out _) ?_; rintro e w1 ⟨rfl, m1, rfl⟩)
  go_region
  all_goals go_wp2
  all_goals go_ret
  all_goals exact ⟨rfl, ((HS.out.drewN _).setOwn hk _).setNext hi (ws[i].next + 1), (((Ch.refl _ _ _).drewN _).set _ _).row _ _⟩
end LockC
end Go.Proofs.Ytllfpbngfkimlaa
