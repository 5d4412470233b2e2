/- Several texts, one behind the other: RnkL5. -/
import Derived.Test.YtnbfadfhpegddaaPkRs
import Derived.Test.YtnbfadfhpegddaaPkRl
/- The walk of RankFinds. -/
set_option linter.unusedVariables false
namespace Go.Proofs.Ytnbfadfhpegddaa
open Go.RowKit hiding tok
open Go.Shelf Go.Sort
open SpanM SupM SpanC TaskM PlayM RankM
open RowsO hiding Tk
namespace RankC
open TaskC (tchk tchkG tchk_zero tchk_of tchk_bd tcheck_any tright_any tk_snoc tk_mem)
open NumC (Row)
open RepC (OwnI.row OwnI.set OwnI.frozen OwnI.base' OwnI.made made_zero rchk rchk_zero iequal_any)
open PlayC (Row.below box_cell box_alloc box_new)
set_option maxRecDepth 20000 in
set_option maxHeartbeats 1600000 in
theorem rankFinds_any (l : List Tk) (size : Int) (sl : List Sp) (a c : Option Addr) (ca cc : Nat) (w : World) (hr : Tks w a l) (hs : Sps w c sl) (hc : l.length ≤ ca) :
    Calls Try.prog 4 #[.slice a l.length ca, .agg #[.int .i64 size, .slice c sl.length cc]] w fun e w' => e = .returned (.bool true) ∧ Below w.heap.size w w' := by
  have HF := hid (fun (W : World) (h : Below w.heap.size w W) => Find_any l size sl a c ca cc W (hr.below h (Nat.le_refl _)) (hs.below h (Nat.le_refl _)) hc)
  have HT := hid (fun (W : World) (h : Below w.heap.size w W) => tright_any a ca l W (hr.below h (Nat.le_refl _)))
  have HSR := hid (fun (W : World) (h : Below w.heap.size w W) => SpanC.right_any size c cc sl W (hs.below h (Nat.le_refl _)))
  by_cases h1 : tchk l = 0
  · rw [h1] at HT
    by_cases h3 : chk size sl = 0
    · rw [h3] at HSR
      have h0 : rchk l size sl = 0 := by unfold rchk; rw [if_pos h1]; exact h3
      have eE : fndE l size sl = someE (fnd l size sl) := by unfold fndE; rw [if_pos h0]
      have eL : fndL l size sl = (fnd l size sl).getD [] := by unfold fndL; rw [if_pos h0]
      rw [eE, eL] at HF
      have hl := (tchk_zero h1).1
      have HFO := hid (fun (b : Option Addr) (cb : Nat) (W : World) (h : Below w.heap.size w W) (hb : Row W b (nums l.length)) (hcb : l.length ≤ cb) => FoundOrder_any l size sl a c ca cc h1 h3 hc l.length (nums l.length) b cb W (nums_len _) hl (hr.below h (Nat.le_refl _)) hb (hs.below h (Nat.le_refl _)) hcb (fun i hi => mem_nums.1 hi))
      have HEQ := hid (fun (r : Option (List Int)) (h : RankM.Found (lst size sl) l (nums l.length) r) => fnd_eq h)
      have HTK := hid (fun k (h : k < l.length) => nums_take h)
      have HALL := hid (List.take_of_length_le (Nat.le_of_eq (nums_len l.length)))
      have HLN := hid (nums_len l.length)
      clear hr hs h1 h3 h0 eE eL
      generalize fnd l size sl = FN at *
      generalize hfp : FoP (lst size sl) l (nums l.length) = FP at *
      have HFP := hid (fun B e W (h : FP B e W) => (by rw [← hfp] at h; exact h : FoP (lst size sl) l (nums l.length) B e W))
      clear hfp
      generalize nums l.length = NS at *
      generalize hn : l.length = n at *
      have HN := hid hn
      clear hn
      go_enter Try.func4, Try.ntmps4
      go_wp2_with fail
      refine (HF.out _ (B1.start w _ _).bel).mono ?_
      rintro e w1 ⟨⟨v, rfl, ho⟩, b1⟩
      have HB1 := hid ((B1.start w #[.int .i64 size, .slice c sl.length cc] 26).step b1)
      obtain ⟨a1, k1, rfl, hr1, _⟩ := OwnI.row ho
      have HP1 := hid hr1
      clear b1 ho hr1
      go_wp2_with fail
      refine (HT.out _ HB1.out.bel).mono ?_
      rintro e w2 ⟨rfl, b2⟩
      have HB2 := hid (HB1.out.step b2)
      have HP2 := hid (Row.below HP1.out b2 (Nat.le_refl _))
      clear b2
      have c0 := HB2.out.c0 0
      have c1 := HB2.out.c0 1
      simp at c0 c1
      go_wp2_with fail
      refine (HSR.out _ HB2.out.bel).mono ?_
      rintro e w3 ⟨rfl, b3⟩
      have HB3 := hid (HB2.out.step b3)
      have HP3 := hid (Row.below HP2.out b3 (Nat.le_refl _))
      clear b3 c0 c1
      go_wp2_with fail
      go_loopw [8, 36] (fun v8 v36 wr => ∃ k : Nat, k ≤ n ∧ v36 = .int .i64 k ∧ OwnI wr w3.heap.size v8 (NS.take k) ∧ B1 w wr #[.int .i64 size, .slice c sl.length cc] 26 ∧ Below w3.heap.size w3 wr) (fun _ v36 _ => n - (intOf v36).toNat)
      case atStart => exact ⟨0, by omega, rfl, by rw [List.take_zero]; exact World.ownsRow_nil _ _ _ _, HB3.out, Below.refl _ _⟩
      case round =>
        obtain ⟨k, hk, rfl, ho, hb, hb3⟩ := hrel
        have HO := hid ho
        have HB := hid hb
        have HBB := hid hb3
        by_cases hlt : k < n
        · have HX := hid (HTK.out k hlt)
          have hki : (k : Int) < (n : Int) := by omega
          clear ho hb hb3
          go_wp2_with (at_builtin; refine wpList_appendI rfl _ _ rfl w3.heap.size _ (NS.take k) [(k : Int)] ⟨wr.heap.size, 0, none⟩ 1 1 rfl ?qc0 rfl rfl ?qc1 ?qc2 ?qc3 ?_)
          case qc0 => exact World.ownsRow.alloc HO.out _
          case qc1 => exact World.news_of_block (heap_alloc_new wr _)
          case qc2 => simp only [List.length_singleton, List.length_take]; omega
          case qc3 => have := HBB.out.size; rw [World.size_alloc]; omega
          intro v8 w8 hown8 hgrow8
          have HBB8 := hid (show Below w3.heap.size w3 w8 from (HBB.out.alloc HBB.out.size (.cells #[.int .i64 k] 3)).grown hgrow8 (by have := HBB.out.size; rw [World.size_alloc]; omega) (fun g hg => (World.ownsRow.lt HO.out g hg).1))
          have HB8 := hid (HB3.out.step HBB8.out)
          rw [← HX.out] at hown8
          have HO8 := hid hown8
          clear hown8 hgrow8
          go_wp2_with fail
          go_roundw
          case rel => exact ⟨k + 1, by omega, by go_num, HO8.out, HB8.out, HBB8.out⟩
          case measure => simp [intOf]; omega
        · obtain rfl : k = n := by omega
          rw [HALL.out] at ho
          obtain ⟨ab, kb, rfl, hrb, hcb⟩ := owni_row ho
          rw [HLN.out] at hcb ⊢
          have HC := hid (HFO.out ab kb wr hb.bel hrb hcb)
          have HP4 := hid (Row.below HP3.out hb3 (Nat.le_refl _))
          have c0 := hb.c0 0
          have c1 := hb.c0 1
          simp at c0 c1
          clear ho hb hb3 hrb hcb
          go_wp2_with fail
          refine HC.out.mono ?_
          rintro e w5 ⟨hfo, b5⟩
          obtain ⟨r, v, o, hf, rfl, ho5, hol, hq⟩ := HFP.out _ _ _ hfo
          have HB5 := hid (HB.out.step b5)
          have HP5 := hid (Row.below HP4.out b5 (Nat.le_refl _))
          have hfn := HEQ.out r hf
          obtain ⟨a5, k5, rfl, hr5, _⟩ := OwnI.row ho5
          have HR5 := hid hr5
          rw [HLN.out] at hol
          have HOL := hid (show o.length ≤ 100000 by omega)
          clear hfo b5 hf ho5 hr5 c0 c1 hol HC HFP HEQ HF HFO
          subst hfn
          cases FN with
          | none =>
            simp only [Option.getD_none, someE, Option.isSome_none, List.length_nil]
            clear hq
            go_wp2_with fail
            go_ret
            exact ⟨rfl, HB5.out.bel⟩
          | some q =>
            have hoq := hq q rfl
            subst hoq
            clear hq
            have HE := hid (iequal_any a1 a5 k1 k5 o o w5 HP5.out HR5.out HOL.out)
            rw [decide_eq_true rfl] at HE
            simp only [Option.getD_some, someE, Option.isSome_some]
            go_wp2_with fail
            refine HE.out.mono ?_
            rintro e w6 ⟨rfl, b6⟩
            have HB6 := hid (HB5.out.step b6)
            clear b6
            go_wp2_with fail
            go_ret
            exact ⟨rfl, HB6.out.bel⟩
    · have h0 : rchk l size sl ≠ 0 := by unfold rchk; rw [if_pos h1]; exact h3
      have e0 : rchk l size sl = chk size sl := by unfold rchk; rw [if_pos h1]
      have eE : fndE l size sl = chk size sl := by unfold fndE; rw [if_neg h0, e0]
      have eL : fndL l size sl = [] := by unfold fndL; rw [if_neg h0]
      rw [eE, eL] at HF
      have n3 : (chk size sl != 0) = true := by simpa using h3
      clear hr hs h1 h3 h0 e0 eE eL
      generalize chk size sl = z at *
      go_enter Try.func4, Try.ntmps4
      go_wp2_with fail
      refine (HF.out _ (B1.start w _ _).bel).mono ?_
      rintro e w1 ⟨⟨v, rfl, ho⟩, b1⟩
      have HB1 := hid ((B1.start w #[.int .i64 size, .slice c sl.length cc] 26).step b1)
      obtain ⟨a1, k1, rfl, hr1, _⟩ := OwnI.row ho
      clear b1 ho hr1
      go_wp2_with fail
      refine (HT.out _ HB1.out.bel).mono ?_
      rintro e w2 ⟨rfl, b2⟩
      have HB2 := hid (HB1.out.step b2)
      clear b2
      have c0 := HB2.out.c0 0
      have c1 := HB2.out.c0 1
      simp at c0 c1
      go_wp2_with fail
      refine (HSR.out _ HB2.out.bel).mono ?_
      rintro e w3 ⟨rfl, b3⟩
      have HB3 := hid (HB2.out.step b3)
      clear b3 c0 c1
      go_wp2_with fail
      go_ret
      exact ⟨by simp, HB3.out.bel⟩
  · have h0 : rchk l size sl ≠ 0 := by unfold rchk; rw [if_neg h1]; exact h1
    have e0 : rchk l size sl = tchk l := by unfold rchk; rw [if_neg h1]
    have eE : fndE l size sl = tchk l := by unfold fndE; rw [if_neg h0, e0]
    have eL : fndL l size sl = [] := by unfold fndL; rw [if_neg h0]
    rw [eE, eL] at HF
    have n3 : (tchk l != 0) = true := by simpa using h1
    have n4 : (tchk l == 0) = false := by simpa using h1
    clear hr hs h1 h0 e0 eE eL
    generalize tchk l = z at *
    go_enter Try.func4, Try.ntmps4
    go_wp2_with fail
    refine (HF.out _ (B1.start w _ _).bel).mono ?_
    rintro e w1 ⟨⟨v, rfl, ho⟩, b1⟩
    have HB1 := hid ((B1.start w #[.int .i64 size, .slice c sl.length cc] 26).step b1)
    obtain ⟨a1, k1, rfl, hr1, _⟩ := OwnI.row ho
    clear b1 ho hr1
    go_wp2_with fail
    refine (HT.out _ HB1.out.bel).mono ?_
    rintro e w2 ⟨rfl, b2⟩
    have HB2 := hid (HB1.out.step b2)
    clear b2
    go_wp2_with fail
    go_ret
    exact ⟨by simp, HB2.out.bel⟩
theorem rankFinds_walk (a0 : Option Addr) (len0 cap0 : Nat) (l0 : List TaskM.Tk) (s1 : Int) (a1 : Option Addr) (len1 cap1 : Nat) (l1 : List Sp) (w : World)
    (w0 : RowsO.IsTks w a0 len0 cap0 l0) (x1 : SpanC.wf64 s1) (w1 : SpanC.IsSps w a1 len1 cap1 l1) :
    Calls Try.prog 4 #[.slice a0 len0 cap0, .agg #[.int .i64 s1, .slice a1 len1 cap1]] w fun e w' => e = .returned (.bool true) ∧ Below w.heap.size w w' := by
  obtain ⟨rfl, hc, _, hr, _⟩ := w0
  obtain ⟨rfl, _, _, hs, _⟩ := w1
  exact rankFinds_any l0 s1 l1 a0 a1 cap0 cap1 w hr hs hc
end RankC
end Go.Proofs.Ytnbfadfhpegddaa
