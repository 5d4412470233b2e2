/- Contracts: container/heap's up and down over the queue. -/
import Derived.Test.YtgplaoojimpbaaaHpM
set_option linter.unusedVariables false
namespace Go.Proofs.Ytgplaoojimpbaaa
open Go.RowKit hiding tok
open Go.Shelf Go.Sort
open SpanM SpanC PlayM
namespace PlayC
open RowG
abbrev vQ (bx : Nat) : Value := .iface 93 (.pointer (some ⟨bx, 0, none⟩))
abbrev oQ (v : Value) : Obj := .cells #[v] 90
theorem box_of_own {w w' : World} {bx B g n cap : Nat} {l : List Jb} (hb : w.heap[bx]? = some (oQ (vS g n cap))) (h : OwnJ w B (vS g n cap) l) (hg : w.grownBy w' (some g)) : w'.heap[bx]? = some (oQ (vS g n cap)) :=
  box_grown hb hg (own_ne h hb (by decide))
theorem grown_none {w w' : World} {r : Option Nat} (h : w.grownBy w' none) : w.grownBy w' r := ⟨h.os, h.tape, h.output, h.size, fun k hk _ => h.block k hk (by simp)⟩
theorem own_none {w w' : World} {B g n cap : Nat} {l : List Jb} (h : OwnJ w B (vS g n cap) l) (hg : w.grownBy w' none) : OwnJ w' B (vS g n cap) l := h.kept hg (.inr (by simp [Value.ownBlock]))
theorem ent_less : ∀ (args : Array Value) (w : World), (callFunc 99 args).run Try.prog w = .ok (.enter 99 args) w := enters_of Try.func99 (by kernel_rfl) rfl
theorem less_gt (g n cap B i j : Nat) (l : List Jb) (w : World) (h : OwnJ w B (vS g n cap) l) (hn : n = l.length) (hi : i < l.length) (hj : j < l.length) (hl : l.length ≤ 4000) :
    Calls Try.prog 99 #[vS g n cap, .int .i64 i, .int .i64 j] w fun e w' => e = .returned (.bool (decide (ltJ (gt l i) (gt l j)))) ∧ w.grownBy w' none := by
  have := less_any g n cap B i j l w h hn hi hj hl
  unfold gt
  rw [getD_at l i hi, getD_at l j hj]
  exact this
set_option maxRecDepth 20000 in
set_option maxHeartbeats 1600000 in
theorem up_any (bx g n cap B j : Nat) (l : List Jb) (w : World) (hbox : w.heap[bx]? = some (oQ (vS g n cap))) (h : OwnJ w B (vS g n cap) l) (hn : n = l.length) (hj : j < n) (hl : l.length ≤ 4000) (hu : UpI l n j) :
    Calls Try.prog 68 #[vQ bx, .int .i64 j] w fun e w' => e = .returned (.tuple #[]) ∧ ∃ l', OwnJ w' B (vS g n cap) l' ∧ w.grownBy w' (some g) ∧ l'.Perm l ∧ Heap l' n := by
  have HX := hid hbox
  have HO := hid h
  have HN := hid hn
  have HU := hid hu
  have hnl : n ≤ 4000 := by omega
  clear hbox h hn hl hu
  go_enter Try.func68, Try.ntmps68
  go_wp2_with fail
  go_loopw [1] (fun vj wr => ∃ (j : Nat) (lj : List Jb), j < n ∧ vj = .int .i64 j ∧ OwnJ wr B (vS g n cap) lj ∧ w.grownBy wr (some g) ∧ lj.Perm l ∧ UpI lj n j) (fun vj _ => (intOf vj).toNat)
  case atStart => exact ⟨j, l, hj, rfl, HO.out, grown_refl _ _, .refl _, HU.out⟩
  case round =>
    obtain ⟨j, lj, hj, rfl, ho, hg, hp, hu⟩ := hrel
    have HO1 := hid ho
    have HG1 := hid hg
    have HP1 := hid hp
    have HU1 := hid hu
    have hlj := hp.length_eq
    have HLJ := hid (show lj.length = n by rw [hlj, HN.out])
    have hc := box_cell (box_of_own HX.out HO.out hg) 0
    simp at hc
    have hm1 := meth_less bx (vS g n cap) wr hc
    clear ho hg hp hu hlj
    by_cases h0 : j = 0
    · subst h0
      have hz : Int.tdiv (-1) 2 = 0 := by decide
      go_wp2_with fail
      go_end0
      exact ⟨rfl, lj, HO1.out, HG1.out, HP1.out, HU1.out.done (by omega)⟩
    · obtain ⟨q, hq⟩ : ∃ q, q = (j - 1) / 2 := ⟨_, rfl⟩
      have eq1 : ((j : Int) - 1).tdiv 2 = (q : Int) := by rw [Int.tdiv_eq_ediv_of_nonneg (by omega)]; omega
      have hjq : ((q : Int) == (j : Int)) = false := by simp; omega
      have hL := hid (less_gt g n cap B j q lj wr HO1.out HLJ.out.symm (by have := HLJ.out; omega) (by have := HLJ.out; omega) (by have := HLJ.out; omega))
      have HQ := hid hq
      have hqj : q < j := by omega
      clear hq
      by_cases hlt : ltJ (gt lj j) (gt lj q)
      · rw [decide_eq_true hlt] at hL
        have HL := hid hlt
        clear hlt
        go_wp2_with (first | (go_at_call 99; refine hL.out.mono ?_; rintro e w1 ⟨rfl, hg1⟩; have HO2 := hid (own_none HO1.out hg1); have HG2 := hid (HG1.out.trans (grown_none hg1)); have hc2 := box_cell (box_of_own HX.out HO.out HG2.out) 0; simp at hc2; have hm2 := meth_swap bx (vS g n cap) w1 hc2; have hS := hid (Swap_any g n cap B q j lj w1 HO2.out HLJ.out.symm (by have := HLJ.out; omega) (by have := HLJ.out; omega) (by have := HLJ.out; omega)); clear hg1) | (go_at_call 100; refine hS.out.mono ?_; rintro e w2 ⟨rfl, ho2, hg2⟩; have HO3 := hid ho2; have HG3 := hid hg2; clear ho2 hg2))
        go_roundw
        case rel =>
          have h5 := HLJ.out
          refine ⟨q, sw lj q j, by omega, by first | rfl | go_num, HO3.out, HG2.out.trans HG3.out, (sw_perm lj q j (by omega) (by omega)).trans HP1.out, ?_⟩
          have h6 := HU1.out.step (by omega) hj (by omega) (by rw [← HQ.out]; exact HL.out)
          rw [← HQ.out] at h6
          exact h6
        case measure => simp [intOf]; omega
      · rw [decide_eq_false hlt] at hL
        have HL := hid hlt
        clear hlt
        go_wp2_with (first | (go_at_call 99; refine hL.out.mono ?_; rintro e w1 ⟨rfl, hg1⟩; have HO2 := hid (own_none HO1.out hg1); have HG2 := hid (HG1.out.trans (grown_none hg1)); clear hg1))
        go_end0
        refine ⟨rfl, lj, HO2.out, HG2.out, HP1.out, HU1.out.done fun _ _ => ?_⟩
        have h5 := HLJ.out
        rw [← HQ.out]
        unfold leJ
        exact HL.out
end PlayC
end Go.Proofs.Ytgplaoojimpbaaa
