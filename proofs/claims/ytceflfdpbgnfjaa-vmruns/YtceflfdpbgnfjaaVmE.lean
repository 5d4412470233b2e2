/- Package vm: the machine in memory; isBehind, goesOn. -/
import Derived.Test.YtceflfdpbgnfjaaVmB
import Derived.Test.YtceflfdpbgnfjaaRowEm
set_option linter.unusedVariables false
namespace Go.Proofs.Ytceflfdpbgnfjaa
open Go.RowKit
open Go.Shelf Go.Sort
open SpanM hiding good
open SpanC IntsC
open RowsO hiding Em
namespace VmC
open VmP
open NumC (Row)
theorem rows_ne {W : World} {B B' e e' size size' n n' : Nat} {v v' : Value} {xs xs' : List Value} (h : W.ownsRow B e size v n xs) (h' : W.ownsRow B' e' size' v' n' xs') (he : e ≠ e') : v.ownBlock = none ∨ v.ownBlock ≠ v'.ownBlock := by
  rcases h.2 with ⟨rfl, _⟩ | ⟨g, cap, cur, rfl, _, hg, _⟩
  · exact .inl rfl
  · right
    intro q
    rcases h'.2 with ⟨rfl, _⟩ | ⟨g', cap', cur', rfl, _, hg', _⟩
    · simp [Value.ownBlock] at q
    · simp only [Value.ownBlock, Option.some.injEq] at q
      subst q
      rw [hg] at hg'
      injection hg' with hg'
      injection hg' with _ h2 _
      exact he h2
theorem row_ne_box {w : World} {B e size n bx T : Nat} {v : Value} {xs : List Value} {cs : Array Value} (h : w.ownsRow B e size v n xs) (hb : w.heap[bx]? = some (.cells cs T)) (hT : T ≠ e) : v.ownBlock ≠ some bx := by
  intro q
  rcases h.2 with ⟨rfl, _⟩ | ⟨g', cap', cur, rfl, _, hg, _⟩
  · simp [Value.ownBlock] at q
  · simp only [Value.ownBlock, Option.some.injEq] at q
    subst q
    rw [hg] at hb
    injection hb with hb
    injection hb with _ h2 _
    exact hT h2.symm
/-- what came in -/
structure Inp where
  pa : Option Addr
  pc : Nat
  p : List In
  ia : Option Addr
  ic : Nat
  i : List Int
abbrev mcC (x : Inp) (g cap : Nat) (s : St) (took : Nat) (ov : Value) : Array Value := #[.int .i64 s.pc, vS g 8 cap, .bool s.halts, .bool s.fault, .slice x.pa x.p.length x.pc, .slice x.ia x.i.length x.ic, .int .i64 took, ov]
/-- a machine in memory; what came in lies below it, and so stays -/
structure Mc (w0 W : World) (x : Inp) (bx g cap : Nat) (s : St) (took : Nat) (ov : Value) (out : List Em) : Prop where
  bel : Below w0.heap.size w0 W
  box : W.heap[bx]? = some (.cells (mcC x g cap s took ov) 53)
  regs : OwnI W w0.heap.size (vS g 8 cap) s.regs
  out : OwnEm W w0.heap.size ov out
  cb : w0.heap.size ≤ bx
/-- what is known of what came in -/
structure Inp.At (x : Inp) (w0 : World) : Prop where
  p : Iss w0 x.pa x.p
  i : Row w0 x.ia x.i
  pl : x.p.length ≤ 100
  il : x.i.length ≤ 5000
variable {w0 W : World} {x : Inp} {bx g cap : Nat} {s : St} {took : Nat} {ov : Value} {out : List Em}
theorem Mc.drewN (h : Mc w0 W x bx g cap s took ov out) (n : Nat) : Mc w0 (W.drewN n) x bx g cap s took ov out :=
  ⟨below_drewN h.bel n, h.box, World.ownsRow.kept h.regs (grown_refl W none |> fun k => ⟨k.os, k.tape, k.output, k.size, k.block⟩) (by simp [Value.ownBlock]), World.ownsRow.kept h.out (grown_refl W none |> fun k => ⟨k.os, k.tape, k.output, k.size, k.block⟩) (by cases ov.ownBlock <;> simp), h.cb⟩
theorem Mc.c (h : Mc w0 W x bx g cap s took ov out) (j : Nat) : W.cell? ⟨bx, j, none⟩ = (mcC x g cap s took ov)[j]? := box_cell h.box j
theorem froz_box {W : World} {bx T : Nat} {cs : Array Value} (h : W.heap[bx]? = some (.cells cs T)) (j : Nat) : W.frozen? ⟨bx, j, none⟩ = false := by
  simp [World.frozen?, h]
theorem Mc.lt (h : Mc w0 W x bx g cap s took ov out) : bx < W.heap.size := (Array.getElem?_eq_some_iff.1 h.box).1
set_option maxRecDepth 20000 in
set_option maxHeartbeats 400000 in
theorem isBehind_any (h : Mc w0 W x bx g cap s took ov out) :
    Calls Try.prog 36 #[.pointer (some ⟨bx, 0, none⟩)] W fun e w' => e = .returned (.bool (decide (s.pc = x.p.length))) ∧ ∃ m, w' = W.drewN m := by
  have c0 := h.c 0
  have c4 := h.c 4
  have e0 : (s.pc == (x.p.length : Int)) = decide (s.pc = x.p.length) := Bool.beq_eq_decide_eq _ _
  have HE := hid e0
  clear e0 h
  simp at c0 c4
  go_enter Try.func36, Try.ntmps36
  go_wp2_with fail
  go_quiet (fail)
  go_wp2_with fail
  go_ret
  exact ⟨by rw [← HE.out]; rfl, _, rfl⟩
set_option maxRecDepth 20000 in
set_option maxHeartbeats 1600000 in
theorem goesOn_any (hx : x.At w0) (hs : Ok x.p s) (h : Mc w0 W x bx g cap s took ov out) (ht : took ≤ x.i.length) :
    Calls Try.prog 26 #[.pointer (some ⟨bx, 0, none⟩)] W fun e w' => e = .returned (.bool (goes x.p s (decide (took < x.i.length)))) ∧ ∃ m, w' = W.drewN m := by
  have c0 := h.c 0
  have c2 := h.c 2
  have c3 := h.c 3
  have c4 := h.c 4
  have c5 := h.c 5
  have c6 := h.c 6
  simp at c0 c2 c3 c4 c5 c6
  have HB := hid (fun m => isBehind_any (h.drewN m))
  have HC := hid (hx.p.below h.bel (Nat.le_refl _))
  have hil := hx.il
  have hpl := hx.pl
  obtain ⟨pc, regs, ha, fa⟩ := s
  simp only at *
  cases ha
  · cases fa
    · by_cases hpc : pc = x.p.length
      · have hg : goes x.p ⟨pc, regs, false, false⟩ (decide (took < x.i.length)) = true := by simp [goes, hpc]
        rw [hg]
        rw [decide_eq_true hpc] at HB
        clear hg hs hx h hpc
        go_enter Try.func26, Try.ntmps26
        go_wp2_with fail
        go_quiet ((go_at_call 36; exact Calls.quiet_of (HB.out _)))
        go_wp2_with fail
        go_ret
        exact ⟨rfl, _, rfl⟩
      · have hin := in_p hs hpc
        simp only at hin
        rw [decide_eq_false hpc] at HB
        obtain ⟨kp, hkp⟩ : ∃ kp : Nat, kp = pc.toNat := ⟨_, rfl⟩
        rw [← hkp] at hin
        obtain ⟨hk1, rfl⟩ := hin
        obtain ⟨b, off, hpa, hbw, d0, d1, d2⟩ := HC.out.at kp hk1
        have hzd : x.p.getD kp zIs = x.p.getD kp zIn := rfl
        rw [hzd] at d0
        rw [hpa] at c4
        have hgg : goes x.p ⟨(kp : Int), regs, false, false⟩ (decide (took < x.i.length)) = (decide ((x.p.getD kp zIn).1 ≠ 9) || decide (took < x.i.length)) := by
          simp only [goes]
          rw [decide_eq_false hpc]
          simp
        rw [hgg]
        generalize (x.p.getD kp zIn).1 = cd at *
        have i1 : (kp : Int) < (x.p.length : Int) := by omega
        clear hgg hs hx h hpc hzd d1 d2 hpa HC hkp
        by_cases h9 : cd = 9
        · subst h9
          by_cases hlt : took < x.i.length
          · have i2 : (took : Int) < (x.i.length : Int) := by omega
            rw [decide_eq_true hlt]
            go_enter Try.func26, Try.ntmps26
            go_wp2_with fail
            go_quiet ((go_at_call 36; exact Calls.quiet_of (HB.out _)))
            go_wp2_with fail
            go_ret
            exact ⟨by simp, _, rfl⟩
          · have i2 : ¬ (took : Int) < (x.i.length : Int) := by omega
            rw [decide_eq_false hlt]
            go_enter Try.func26, Try.ntmps26
            go_wp2_with fail
            go_quiet ((go_at_call 36; exact Calls.quiet_of (HB.out _)))
            go_wp2_with fail
            go_ret
            exact ⟨by simp, _, rfl⟩
        · have hn9 : (cd != 9) = true := by simp only [bne_iff_ne]; exact h9
          rw [decide_eq_true h9]
          clear h9
          go_enter Try.func26, Try.ntmps26
          go_wp2_with fail
          go_quiet ((go_at_call 36; exact Calls.quiet_of (HB.out _)))
          go_wp2_with fail
          go_ret
          exact ⟨rfl, _, rfl⟩
    · have hg : goes x.p ⟨pc, regs, false, true⟩ (decide (took < x.i.length)) = false := by simp [goes]
      rw [hg]
      clear hg HB HC hs hx h
      go_enter Try.func26, Try.ntmps26
      go_wp2_with fail
      go_ret
      exact ⟨rfl, 0, rfl⟩
  · have hg : goes x.p ⟨pc, regs, true, fa⟩ (decide (took < x.i.length)) = false := by simp [goes]
    rw [hg]
    clear hg HB HC hs hx h
    go_enter Try.func26, Try.ntmps26
    go_wp2_with fail
    go_ret
    exact ⟨rfl, 0, rfl⟩
end VmC
end Go.Proofs.Ytceflfdpbgnfjaa
