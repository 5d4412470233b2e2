/- Several texts, one behind the other: RnkL2. -/
import Derived.Test.YtnbfadfhpegddaaKRnkI
import Derived.Test.YtnbfadfhpegddaaKRnkL1
/- The walk of RankOrder. -/
set_option linter.unusedVariables false
namespace Go.Proofs.Ytnbfadfhpegddaa
open Go.RowKit hiding tok
open Go.Shelf Go.Sort
open SpanM SupM SpanC TaskM PlayM RankM
open RowsO hiding Tk
namespace RankC
open TaskC (tchk tchkG tchk_zero tchk_of tchk_bd tcheck_any tk_snoc tk_mem)
open NumC (Row)
open RepC (OwnI.row OwnI.set OwnI.frozen OwnI.base' OwnI.made made_zero rchk rchk_zero)
open PlayC (Row.below box_cell box_alloc box_new)
theorem ofE_ok {l : List Tk} {o : List Int} (h1 : tchk l = 0) (h2 : OrdP l.length o) : ofE l o = 0 ∧ ofL l o = ord l o := by
  unfold ofE ofL
  rw [if_pos h1, if_pos h2, if_pos ⟨h1, h2⟩]
  exact ⟨rfl, rfl⟩
set_option maxRecDepth 20000 in
set_option maxHeartbeats 1600000 in
theorem rankOrder_any (l : List Tk) (o : List Int) (a b : Option Addr) (ca cb : Nat) (w : World) (hr : Tks w a l) (hr2 : Row w b o) (hc : l.length ≤ ca) :
    Calls Try.prog 8 #[.slice a l.length ca, .slice b o.length cb] w fun e w' => e = .returned (.bool true) ∧ Below w.heap.size w w' := by
  have HO := hid (Of_any l o a b ca cb w hr hr2 hc)
  have hL := hid lives
  by_cases h0 : ofE l o = 0
  · obtain ⟨h1, h2⟩ := ofE_zero h0
    have e2 := (ofE_ok h1 h2).2
    rw [h0, e2] at HO
    have hl := (tchk_zero h1).1
    have hol := h2.1
    have HML := hid (show (ord l o).length = l.length by rw [ord_len, hol])
    have HM2 := hid (fun (bb : List Int) (p : Option Addr) (k : Nat) (W : World) (am : Option Addr) (cm : Nat) (hm : Tks W am (ord l o)) (hb : Row W p bb) (hcm : (ord l o).length ≤ cm) (hbk : Bk o l.length l.length bb) => (by
      have hb2 := hbk.ord h2
      have t0 := tchk_ord (o := o) h1 (fun i hi => h2.bd hi) (by omega)
      have ok := ofE_ok (l := ord l o) (o := bb) t0 (by rw [ord_len, hol]; exact hb2)
      have := Of_any (ord l o) bb am p cm k W hm hb hcm
      rw [ok.1, ok.2, hbk.back h2, hbk.1] at this
      exact this : Calls Try.prog 11 #[.slice am (ord l o).length cm, .slice p l.length k] W fun e w' => (∃ v, e = .returned (.tuple #[v, .int .i64 0]) ∧ OwnTk w' W.heap.size v l) ∧ Below W.heap.size W w'))
    have hq : ByP (fun x => x.2.2) l (ordE (fun x => x.2.2) l) := by unfold ordE; rw [if_pos h1]; exact ordBy_byP _ _
    have HA := hid (fun (W : World) (h : Below w.heap.size w W) => ByDue_any l a ca W (hr.below h (Nat.le_refl _)))
    rw [h1] at HA
    have HZ := hid (fun (p : Option Addr) (k : Nat) (W : World) (h : Below w.heap.size w W) (hp : Row W p (ordE (fun x => x.2.2) l)) => (by
      have ok := ofE_ok h1 hq.1
      have := Of_any l (ordE (fun x => x.2.2) l) a p ca k W (hr.below h (Nat.le_refl _)) hp hc
      rw [ok.1, ok.2] at this
      exact this : Calls Try.prog 11 #[.slice a l.length ca, .slice p (ordE (fun x => x.2.2) l).length k] W fun e w' => (∃ v, e = .returned (.tuple #[v, .int .i64 0]) ∧ OwnTk w' W.heap.size v (ord l (ordE (fun x => x.2.2) l))) ∧ Below W.heap.size W w'))
    have HEQ := hid (fun (p : Option Addr) (k : Nat) (W : World) (h : Below w.heap.size w W) (hp : Tks W p l) => tequal_same p a l.length k ca l W hp (hr.below h (Nat.le_refl _)) rfl (by omega))
    have HRT := hid (fun (p : Option Addr) (k : Nat) (W : World) (hp : Row W p (ordE (fun x => x.2.2) l)) => (by
      have := rightOrder_any (ordE (fun x => x.2.2) l) l.length p k W hp (by rw [hq.1.1]; omega)
      rw [decide_eq_true hq.1] at this
      exact this : Calls Try.prog 18 #[.int .i64 l.length, .slice p (ordE (fun x => x.2.2) l).length k] W fun e w' => e = .returned (.bool true) ∧ Below W.heap.size W w'))
    have HSR := hid (fun (p : Option Addr) (k : Nat) (W : World) (hp : Tks W p (ord l (ordE (fun x => x.2.2) l))) => isSorted_any (ord l (ordE (fun x => x.2.2) l)) p k W hp (by rw [ord_len, hq.1.1]; exact hl) (tok_ord (tchk_zero h1).2 (fun i hi => hq.1.bd hi)) hq.sorted)
    have HBS := hid (fun (k : Nat) (bb : List Int) (h : Bk o l.length k bb) (hk : k < l.length) => h.step h2 hk)
    have HBD := hid (fun (k : Nat) (hk : k < l.length) => ord_bd h2 hk)
    have HB0 := hid (Bk.zero o l.length)
    have HR2 := hid hr2
    have HBL := hid (fun (k : Nat) (bb : List Int) (h : Bk o l.length k bb) => h.1)
    obtain ⟨i0, hi, hz0, hz1, hz2⟩ := info_parts infoInt
    have Hi := hid hi
    have Hz0 := hid hz0
    have Hz1 := hid hz1
    have Hz2 := hid hz2
    have HOL := hid hol
    rw [hol]
    rw [hol] at HO
    clear hr hr2 h0 h1 h2 e2 hol hq hi hz0 hz1 hz2
    generalize ord l (ordE (fun x => x.2.2) l) = Z at *
    generalize ordE (fun x => x.2.2) l = q at *
    generalize ord l o = M at *
    generalize Bk o l.length = BK at *
    generalize hn : l.length = n at *
    have HN := hid hn
    clear hn
    go_enter Try.func8, Try.ntmps8
    go_wp2_with fail
    refine HO.out.mono ?_
    rintro e w1 ⟨⟨v, rfl, ho⟩, b1⟩
    obtain ⟨am, cm, rfl, hm, hcm, _, _⟩ := OwnTk.rows' ho
    have HB1 := hid b1
    have HM1 := hid hm
    have HCM := hid hcm
    clear ho b1 hm hcm
    go_wp2_with fail
    refine (hL.out _).mono ?_
    rintro e w2 ⟨rfl, b2⟩
    have HB2 := hid (bel_of HB1.out b2)
    have HM2' := hid (HM1.out.below b2 (Nat.le_refl _))
    clear b2
    go_wp2_with (at_make; refine wpList_make_full _ rfl _ _ 23 rfl w2.heap.size 3 i0 (.int .i64 0) 1 Try.underlying23 Hi.out Hz0.out Hz1.out _ _ _ _ n rfl rfl ?qc1 ?qc2 ?qc3 ?qc4 ?qc5 ?_)
    case qc1 => rfl
    case qc2 => rfl
    case qc3 => rw [Hz2.out]; omega
    case qc4 => unfold maxLen; omega
    case qc5 => exact Nat.le_refl _
    intro w3 hown hgrow
    have HB3 := hid (Below.grown (Below.refl w2.heap.size w2) hgrow (Nat.le_refl _) (fun k hk => by simp at hk))
    have HO3 := hid (OwnI.made hown)
    clear hown hgrow
    obtain ⟨g, hg⟩ : ∃ g, g = w2.heap.size := ⟨_, rfl⟩
    have HG := hid hg
    rw [← hg] at HB3 HO3
    rw [← hg]
    clear hg
    go_wp2_with fail
    go_loopw [39] (fun v39 wr => ∃ (k : Nat) (bb : List Int), k ≤ n ∧ v39 = .int .i64 k ∧ BK k bb ∧ OwnI wr g (vS g n n) bb ∧ Below g w2 wr) (fun v39 _ => n - (intOf v39).toNat)
    case atStart => exact ⟨0, _, by omega, rfl, HB0.out, HO3.out, HB3.out⟩
    case round =>
      obtain ⟨k, bb, hk, rfl, hbk, ho, hb⟩ := hrel
      have HO := hid ho
      have HB := hid hb
      have HBK := hid hbk
      have HBW := hid (bel_of HB2.out (show Below w2.heap.size w2 wr by rw [← HG.out]; exact hb))
      have HLB := hid (show n = bb.length from (HBL.out k bb hbk).symm)
      have HSZ := hid (show g ≤ wr.heap.size by have := HG.out; have := hb.size; omega)
      by_cases hlt : k < n
      · obtain ⟨p, off, rfl, _, d1⟩ := PlayC.Row.at (Row.below HR2.out HBW.out (Nat.le_refl _)) k (by have := HOL.out; omega)
        obtain ⟨x0, x1⟩ := HBD.out k hlt
        have HNX := hid (HBS.out k bb hbk hlt)
        generalize o.getD k 0 = x at *
        obtain ⟨i, rfl⟩ : ∃ i : Nat, x = i := ⟨x.toNat, by omega⟩
        rw [Int.toNat_natCast] at HNX
        have y0 := OwnI.cell ho i (by have := HLB.out; omega)
        have y1 := OwnI.frozen ho HLB.out i
        have HST := hid (OwnI.set ho HLB.out i (k : Int))
        have j0 : ¬ (i : Int) < 0 := by omega
        have j1 : ¬ (n : Int) ≤ (i : Int) := by omega
        have j2 : (k : Int) < (n : Int) := by omega
        clear ho hb hbk
        go_wp2_with fail
        obtain ⟨o4, g4⟩ := HST.out
        have HB4 := hid (Below.grown HB.out g4 HSZ.out (fun j hj => by simp at hj; omega))
        clear y0 y1 g4 d1
        go_roundw
        case rel => exact ⟨k + 1, _, by omega, by go_num, HNX.out, o4, HB4.out⟩
        case measure => simp [intOf]; omega
      · obtain rfl : k = n := by omega
        obtain ⟨pb, kb, e', hrb, _⟩ := OwnI.row ho
        simp only [Value.slice.injEq] at e'
        have HRB := hid (show Row wr (some ⟨g, 0, none⟩) bb by rw [e'.1]; exact hrb)
        have hmw := HM2'.out.below (show Below w2.heap.size w2 wr by rw [← HG.out]; exact hb) (Nat.le_refl _)
        have HC4 := hid (HM2.out bb (some ⟨g, 0, none⟩) k wr am cm hmw HRB.out HCM.out hbk)
        clear ho hb hbk hrb e' hmw
        go_wp2_with fail
        refine HC4.out.mono ?_
        rintro e w4 ⟨⟨v, rfl, ho⟩, b4⟩
        have HB4 := hid (bel_of HBW.out b4)
        obtain ⟨an, cn, rfl, hnl, _, _, _⟩ := OwnTk.rows' ho
        have HT4 := hid hnl
        rw [HN.out]
        clear ho b4 hnl
        go_wp2_with fail
        refine (HA.out _ HB4.out).mono ?_
        rintro e w5 ⟨⟨v, rfl, ho⟩, b5⟩
        have HB5 := hid (bel_of HB4.out b5)
        have HT5 := hid (HT4.out.below b5 (Nat.le_refl _))
        obtain ⟨aq, cq, rfl, hq, _⟩ := OwnI.row ho
        have HQ5 := hid hq
        clear ho b5 hq
        go_wp2_with fail
        refine (HZ.out _ _ _ HB5.out HQ5.out).mono ?_
        rintro e w6 ⟨⟨v, rfl, ho⟩, b6⟩
        have HB6 := hid (bel_of HB5.out b6)
        have HT6 := hid (HT5.out.below b6 (Nat.le_refl _))
        have HQ6 := hid (Row.below HQ5.out b6 (Nat.le_refl _))
        obtain ⟨az, cz, rfl, hz, _, _, _⟩ := OwnTk.rows' ho
        have HZ6 := hid hz
        clear ho b6 hz
        go_wp2_with fail
        refine (HEQ.out _ _ _ HB6.out HT6.out).mono ?_
        rintro e w7 ⟨rfl, b7⟩
        have HB7 := hid (bel_of HB6.out b7)
        have HQ7 := hid (Row.below HQ6.out b7 (Nat.le_refl _))
        have HZ7 := hid (HZ6.out.below b7 (Nat.le_refl _))
        clear b7
        go_wp2_with fail
        refine (HRT.out _ _ _ HQ7.out).mono ?_
        rintro e w8 ⟨rfl, b8⟩
        have HB8 := hid (bel_of HB7.out b8)
        have HZ8 := hid (HZ7.out.below b8 (Nat.le_refl _))
        clear b8
        go_wp2_with fail
        refine (HSR.out _ _ _ HZ8.out).mono ?_
        rintro e w9 ⟨rfl, b9⟩
        have HB9 := hid (bel_of HB8.out b9)
        clear b9
        go_wp2_with fail
        go_ret
        exact ⟨rfl, HB9.out⟩
  · have e2 : ofL l o = [] := by
      unfold ofL
      rw [if_neg]
      rintro ⟨h1, h2⟩
      exact h0 (ofE_ok h1 h2).1
    rw [e2] at HO
    have hn : (ofE l o != 0) = true := by simpa using h0
    clear hr hr2 h0 e2
    generalize ofE l o = z at *
    go_enter Try.func8, Try.ntmps8
    go_wp2_with fail
    refine HO.out.mono ?_
    rintro e w1 ⟨⟨v, rfl, ho⟩, b1⟩
    obtain ⟨am, cm, rfl, hm, hcm, _, _⟩ := OwnTk.rows' ho
    have HB1 := hid b1
    clear ho b1 hm hcm
    simp only [List.length_nil]
    go_wp2_with fail
    refine (hL.out _).mono ?_
    rintro e w2 ⟨rfl, b2⟩
    have HB2 := hid (bel_of HB1.out b2)
    clear b2
    go_wp2_with fail
    refine (hL.out _).mono ?_
    rintro e w3 ⟨rfl, b3⟩
    have HB3 := hid (bel_of HB2.out b3)
    clear b3
    go_wp2_with fail
    go_ret
    exact ⟨rfl, HB3.out⟩
theorem rankOrder_walk (a0 : Option Addr) (len0 cap0 : Nat) (l0 : List TaskM.Tk) (a1 : Option Addr) (len1 cap1 : Nat) (l1 : List Int) (w : World)
    (w0 : RowsO.IsTks w a0 len0 cap0 l0) (w1 : RowsO.IsIns w a1 len1 cap1 l1) :
    Calls Try.prog 8 #[.slice a0 len0 cap0, .slice a1 len1 cap1] w fun e w' => e = .returned (.bool true) ∧ Below w.heap.size w w' := by
  obtain ⟨rfl, hc, _, hr, _⟩ := w0
  obtain ⟨rfl, _, _, hf, _⟩ := w1
  exact rankOrder_any l0 l1 a0 a1 cap0 cap1 w hr hf hc
end RankC
end Go.Proofs.Ytnbfadfhpegddaa
