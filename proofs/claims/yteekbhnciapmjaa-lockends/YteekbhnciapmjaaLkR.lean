/- Package lock: Bound. -/
import Derived.Test.YteekbhnciapmjaaLkQ
set_option linter.unusedVariables false
namespace Go.Proofs.Yteekbhnciapmjaa
open Go.RowKit
open Go.Shelf Go.Sort
open SpanM SpanC IntsC
open RowsO hiding Wk
namespace LockC
open LockM
open NumC (Row)
/-- the longest row of the works behind i, of k of them -/
def bndK (l : List LockM.Wk) (i : Nat) : Nat → Int
  | 0 => 0
  | k + 1 => max (bndK l i k) (lgF (ceils l) i (acts l (i + 1 + k))).1
def bnd (l : List LockM.Wk) (i : Nat) : Int := bndK l i (l.length - (i + 1))
theorem bndK_bd {l : List LockM.Wk} (hk : Oks l) (i : Nat) : ∀ k, k ≤ l.length - (i + 1) → 0 ≤ bndK l i k ∧ bndK l i k ≤ 3000 := by
  intro k
  induction k with
  | zero => intro _; simp [bndK]
  | succ k ih =>
    intro hkl
    have h1 := ih (by omega)
    have hw := hk.at (show i + 1 + k < l.length by omega)
    have h2 := lgF_bd (C := ceils l) (i := i) (run_bd hw) _ (Nat.le_refl _)
    rw [List.take_length] at h2
    have h3 := hw.many
    simp only [bndK]
    have e : acts l (i + 1 + k) = (l.getD (i + 1 + k) (0, [])).2 := rfl
    rw [e]
    omega
def bndE (l : List LockM.Wk) (i : Int) : Int := if wchk l ≠ 0 then wchk l else if i < 0 ∨ (l.length : Int) ≤ i then 7 else 0
set_option maxRecDepth 20000 in
set_option maxHeartbeats 400000 in
theorem Bound_bad (l : List LockM.Wk) (i : Int) (h : bndE l i ≠ 0) (a : Option Addr) (c : Nat) (w : World) (hr : RowsO.Wks w a l) :
    Calls Try.prog 11 #[.slice a l.length c, .int .i64 i] w fun e w' => e = .returned (.tuple #[.int .i64 0, .int .i64 (bndE l i)]) ∧ Below w.heap.size w w' := by
  have HC := hid (fun wx (hb : Below w.heap.size w wx) => Check_any l a c wx (hr.below hb (Nat.le_refl _)))
  clear hr
  by_cases hq : wchk l = 0
  · have e : bndE l i = 7 := by
      unfold bndE at h ⊢
      rw [if_neg (by simpa using hq)] at h ⊢
      split at h
      · rename_i g; rw [if_pos g]
      · exact absurd rfl h
    have hor : i < 0 ∨ (l.length : Int) ≤ i := by
      unfold bndE at h
      rw [if_neg (by simpa using hq)] at h
      split at h
      · assumption
      · exact absurd rfl h
    rw [e]
    rw [hq] at HC
    by_cases hi : i < 0
    · clear h e hq hor
      go_enter Try.func11, Try.ntmps11
      go_wp2_with (first | (go_at_call 13; refine (HC.out _ (Below.refl _ _)).mono ?_; rintro e w1 ⟨rfl, hb1⟩; have HB1 := hid hb1; clear hb1))
      go_ret2
      exact ⟨rfl, HB1.out⟩
    · have hi2 : (l.length : Int) ≤ i := by omega
      clear h e hq hor
      go_enter Try.func11, Try.ntmps11
      go_wp2_with (first | (go_at_call 13; refine (HC.out _ (Below.refl _ _)).mono ?_; rintro e w1 ⟨rfl, hb1⟩; have HB1 := hid hb1; clear hb1))
      go_ret2
      exact ⟨rfl, HB1.out⟩
  · have e : bndE l i = wchk l := by unfold bndE; rw [if_pos hq]
    have hne : (wchk l != 0) = true := by simpa using hq
    rw [e]
    clear h e hq
    generalize wchk l = q at *
    go_enter Try.func11, Try.ntmps11
    go_wp2_with (first | (go_at_call 13; refine (HC.out _ (Below.refl _ _)).mono ?_; rintro e w1 ⟨rfl, hb1⟩; have HB1 := hid hb1; clear hb1))
    go_ret2
    exact ⟨rfl, HB1.out⟩
set_option maxRecDepth 20000 in
set_option maxHeartbeats 400000 in
theorem Bound_ok (l : List LockM.Wk) (hk : Oks l) (i : Nat) (hi : i < l.length) (a : Option Addr) (c : Nat) (hc : l.length ≤ c) (w : World) (hr : RowsO.Wks w a l) :
    Calls Try.prog 11 #[.slice a l.length c, .int .i64 i] w fun e w' => e = .returned (.tuple #[.int .i64 (bnd l i), .int .i64 0]) ∧ Below w.heap.size w w' := by
  have HR := hid hr
  have HC := hid (fun wx (hb : Below w.heap.size w wx) => Check_any l a c wx (hr.below hb (Nat.le_refl _)))
  have HCE := hid (fun wx (hb : Below w.heap.size w wx) => ceilingsOf_any l hk a c wx (hr.below hb (Nat.le_refl _)))
  rw [wchk_of hk] at HC
  have HBD := hid (fun k hkl => bndK_bd hk i k hkl)
  have HK := hid hk
  have hl8 := hk.1
  have hcl8 := ceils_len l
  have HLO := hid (fun (j : Nat) (hj : j < l.length) a1 c1 wx (hx : Acs wx a1 (l.getD j (0, [])).2) => longest_any (l.getD j (0, [])) (hk.at hj) (ceils l) hcl8 i (by omega) a1 c1 wx hx)
  obtain ⟨b, off, rfl, hbw, _⟩ := hr.at i hi
  have HBN : Hid (bnd l i = bndK l i (l.length - (i + 1))) := rfl
  have HBS : Hid (∀ k, bndK l i (k + 1) = max (bndK l i k) (lgF (ceils l) i (acts l (i + 1 + k))).1) := fun k => rfl
  have HB0 : Hid (bndK l i 0 = 0) := rfl
  have HLG := hid (fun (j : Nat) (hj : j < l.length) => lgF_bd (C := ceils l) (i := i) (run_bd (hk.at hj)) _ (Nat.le_refl _))
  clear hr hk
  obtain ⟨cl, hcl⟩ : ∃ y, y = ceils l := ⟨_, rfl⟩
  rw [← hcl] at HCE HLO hcl8 HBS HLG
  generalize bnd l i = R at *
  generalize hbk : bndK l i = bk at *
  clear hcl
  have i1 : ¬ (i : Int) < 0 := by omega
  have i2 : ¬ (l.length : Int) ≤ (i : Int) := by omega
  have i3 : IntKind.i64.wrap ((i : Int) + 1) = (i : Int) + 1 := by rw [IntKind.wrap_i64]; omega
  match cl, hcl8 with
  | [e0, e1, e2, e3, e4, e5, e6, e7], _ =>
    have hic : intC [e0, e1, e2, e3, e4, e5, e6, e7] = #[.int .i64 e0, .int .i64 e1, .int .i64 e2, .int .i64 e3, .int .i64 e4, .int .i64 e5, .int .i64 e6, .int .i64 e7] := rfl
    rw [hic] at HCE HLO
    clear hic
    have i4 : (i : Int) + 1 ≤ (l.length : Int) := by omega
    have i5 : (l.length : Int) ≤ (c : Int) := by omega
    by_cases hcap : i + 1 = c
    · have hz : l.length - (i + 1) = 0 := by omega
      have HR0 : Hid (R = 0) := by
        show _ = _
        rw [HBN.out, hz, HB0.out]
      subst hcap
      go_enter Try.func11, Try.ntmps11
      go_wp2_with (first | (go_at_call 13; refine (HC.out _ (Below.refl _ _)).mono ?_; rintro e w1 ⟨rfl, hb1⟩; have HB1 := hid hb1; clear hb1) | (go_at_call 22; refine (HCE.out _ HB1.out).mono ?_; rintro e w2 ⟨rfl, hb2⟩; have HB2 := hid (HB1.out.trans (hb2.mono HB1.out.size)); clear hb2))
      go_rounds 1
      go_ret2
      exact ⟨by rw [HR0.out]; rfl, HB2.out.alloc HB2.out.size _⟩
    · have hcap2 : i + 1 < c := by omega
      have hn : l.length - (i + 1) ≤ 8 := by omega
      go_enter Try.func11, Try.ntmps11
      go_wp2_with (first | (go_at_call 13; refine (HC.out _ (Below.refl _ _)).mono ?_; rintro e w1 ⟨rfl, hb1⟩; have HB1 := hid hb1; clear hb1) | (go_at_call 22; refine (HCE.out _ HB1.out).mono ?_; rintro e w2 ⟨rfl, hb2⟩; have HB2 := hid (HB1.out.trans (hb2.mono HB1.out.size)); clear hb2))
      have hbx : Hid ((w2.alloc (.cells #[.int .i64 e0, .int .i64 e1, .int .i64 e2, .int .i64 e3, .int .i64 e4, .int .i64 e5, .int .i64 e6, .int .i64 e7] 47)).heap[w2.heap.size]? = some (.cells #[.int .i64 e0, .int .i64 e1, .int .i64 e2, .int .i64 e3, .int .i64 e4, .int .i64 e5, .int .i64 e6, .int .i64 e7] 47)) := box_new w2 _ _
      have hbl0 : Hid (Below w.heap.size w (w2.alloc (.cells #[.int .i64 e0, .int .i64 e1, .int .i64 e2, .int .i64 e3, .int .i64 e4, .int .i64 e5, .int .i64 e6, .int .i64 e7] 47))) := HB2.out.alloc HB2.out.size _
      obtain ⟨n, hnn⟩ : ∃ n, n = l.length - (i + 1) := ⟨_, rfl⟩
      rw [← hnn] at hn HBN HBD
      simp only [← hnn]
      have HNN := hid hnn
      clear hnn
      go_loopw [8, 31] (fun v8 v31 wr => ∃ k : Nat, k ≤ n ∧ v31 = .int .i64 k ∧ v8 = .int .i64 (bk k) ∧ Hid (Below w.heap.size w wr) ∧ Hid (wr.heap[w2.heap.size]? = some (.cells #[.int .i64 e0, .int .i64 e1, .int .i64 e2, .int .i64 e3, .int .i64 e4, .int .i64 e5, .int .i64 e6, .int .i64 e7] 47))) (fun _ v31 _ => n - (intOf v31).toNat)
      case atStart => exact ⟨0, by omega, rfl, by rw [HB0.out], hbl0.out, hbx.out⟩
      case round =>
        obtain ⟨k, hkn, rfl, rfl, hbl, hbx2⟩ := hrel
        by_cases hlt : k < n
        · have hj : i + 1 + k < l.length := by have := HNN.out; omega
          obtain ⟨b2, off2, he, _, d1, a1, c1, d2, d3, d4⟩ := (HR.out.below hbl.out (Nat.le_refl _)).at (i + 1 + k) hj
          simp only [Option.some.injEq, Addr.mk.injEq, and_true] at he
          obtain ⟨rfl, rfl⟩ := he
          have hz : l.getD (i + 1 + k) zWk = l.getD (i + 1 + k) (0, []) := rfl
          rw [hz] at d1 d2 d3 d4
          have hofs : off + (i + 1 + k) * 2 = off + (i + 1) * 2 + k * 2 := by omega
          rw [hofs] at d1 d2
          have i6 : (k : Int) < (n : Int) := by omega
          have HLO2 := hid (fun wx (hb : Below wr.heap.size wr wx) => HLO.out (i + 1 + k) hj a1 c1 wx (d4.below hb (Nat.le_refl _)))
          have HBS2 := hid (HBS.out k)
          obtain ⟨v1, v2⟩ := HBD.out k hkn
          have HLG2 := HLG.out (i + 1 + k) hj
          rw [List.take_length] at HLG2
          obtain ⟨v3, v4, _⟩ := HLG2
          have h30 := (HK.out.at hj).many
          have hac : acts l (i + 1 + k) = (l.getD (i + 1 + k) (0, [])).2 := rfl
          rw [hac] at HBS2
          have g0 := box_cell hbx2.out 0
          have g1 := box_cell hbx2.out 1
          have g2 := box_cell hbx2.out 2
          have g3 := box_cell hbx2.out 3
          have g4 := box_cell hbx2.out 4
          have g5 := box_cell hbx2.out 5
          have g6 := box_cell hbx2.out 6
          have g7 := box_cell hbx2.out 7
          simp at g0 g1 g2 g3 g4 g5 g6 g7
          have hbl2 := (Array.getElem?_eq_some_iff.1 hbx2.out).1
          generalize l.getD (i + 1 + k) (0, []) = x at *
          obtain ⟨cm, la⟩ := x
          simp only at d1 d2 d3 d4 h30 HBS2 HLO2 v3 v4
          generalize (lgF [e0, e1, e2, e3, e4, e5, e6, e7] (i : Int) la).1 = lg at *
          have v5 : lg ≤ 3000 := by omega
          generalize bk k = bkk at *
          clear d4 hz hac
          go_wp2_with (go_at_call 23; refine (HLO2.out _ (by go_grown)).mono ?_; rintro e w3 ⟨rfl, hb3⟩; have HB3 := hid hb3; clear hb3)
          go_roundw
          case rel =>
            refine ⟨k + 1, by omega, by go_num, by rw [HBS2.out], ?_, ?_⟩
            · exact (hbl.out.alloc hbl.out.size _).trans (HB3.out.mono (by rw [World.size_alloc]; have := hbl.out.size; omega))
            · exact box_below (box_alloc hbx2.out _) HB3.out (Nat.le_refl _)
          case measure => simp [intOf]; omega
        · obtain rfl : k = n := by omega
          go_wp2_with fail
          go_ret2
          exact ⟨by rw [HBN.out]; rfl, hbl.out⟩
end LockC
end Go.Proofs.Yteekbhnciapmjaa
