/- Several texts, one behind the other: RnkL4. -/
import Derived.Test.YtnbfadfhpegddaaKRnkR
import Derived.Test.YtnbfadfhpegddaaPkRl
/- The walk of RankSays (written by gen_rks.py). -/
set_option linter.unusedVariables false
namespace Go.Proofs.Ytnbfadfhpegddaa
open Go.RowKit hiding tok
open Go.Shelf Go.Sort
open SpanM SupM SpanC TaskM PlayM RankM
open RowsO hiding Tk
namespace RankC
open TaskC (tchk tchkG tchk_zero tchk_of tchk_bd tcheck_any tright_any tk_snoc tk_mem)
open NumC (Row)
open RepC (OwnI.row OwnI.set OwnI.frozen OwnI.base' OwnI.made made_zero rchk rchk_zero iequal_any tbl)
open PlayC (Row.below box_cell box_alloc box_new)
theorem rightOrder_big (o : List Int) (n : Nat) (a : Option Addr) (ca : Nat) (w : World) (hr : Row w a o) (hn : n ≤ 16) :
    Calls Try.prog 18 #[.int .i64 n, .slice a o.length ca] w fun e w' => e = .returned (.bool (decide (OrdP n o))) ∧ Below w.heap.size w w' := by
  by_cases h : o.length = n
  · exact rightOrder_any o n a ca w hr (by omega)
  · rw [decide_eq_false (fun q : OrdP n o => h q.1)]
    have hn1 : ((o.length : Int) != (n : Int)) = true := by simp; omega
    clear hr h
    go_enter Try.func18, Try.ntmps18
    go_wp2_with fail
    go_ret
    exact ⟨rfl, Below.refl _ _⟩
set_option maxRecDepth 20000 in
set_option maxHeartbeats 3200000 in
theorem rankSays_any (l : List Tk) (o : List Int) (size : Int) (sl : List Sp) (a b c : Option Addr) (ca cb cc : Nat) (w : World) (hr : Tks w a l) (hr2 : Row w b o) (hs : Sps w c sl) (hc : l.length ≤ ca) :
    Calls Try.prog 3 #[.slice a l.length ca, .slice b o.length cb, .agg #[.int .i64 size, .slice c sl.length cc]] w fun e w' => e = .returned (.bool true) ∧ Below w.heap.size w w' := by
  have HD := hid (fun (W : World) (h : Below w.heap.size w W) => ByDue_any l a ca W (hr.below h (Nat.le_refl _)))
  have HV := hid (fun (W : World) (h : Below w.heap.size w W) => ByEvery_any l a ca W (hr.below h (Nat.le_refl _)))
  have HO := hid (fun (W : World) (h : Below w.heap.size w W) => Of_any l o a b ca cb W (hr.below h (Nat.le_refl _)) (Row.below hr2 h (Nat.le_refl _)) hc)
  have HG := hid (fun (W : World) (h : Below w.heap.size w W) => Good_any l o size sl a b c ca cb cc W (hr.below h (Nat.le_refl _)) (Row.below hr2 h (Nat.le_refl _)) (hs.below h (Nat.le_refl _)) hc)
  have HT := hid (fun (W : World) (h : Below w.heap.size w W) => tright_any a ca l W (hr.below h (Nat.le_refl _)))
  by_cases h1 : tchk l = 0
  · have hl := (tchk_zero h1).1
    have HB1' := hid (fun (W : World) (h : Below w.heap.size w W) => OrderBy_any 16 _ due_key2 l a ca W (hr.below h (Nat.le_refl _)) hl)
    have HB2' := hid (fun (W : World) (h : Below w.heap.size w W) => OrderBy_any 17 _ every_key2 l a ca W (hr.below h (Nat.le_refl _)) hl)
    have ed : ordE (fun x => x.2.2) l = ordBy (fun i => (RankM.get l i).2.2) l.length := by unfold ordE; rw [if_pos h1]
    have ee : ordE (fun x => x.2.1) l = ordBy (fun i => (RankM.get l i).2.1) l.length := by unfold ordE; rw [if_pos h1]
    rw [ed] at HD
    rw [ee] at HV
    rw [h1] at HD HV HT
    have HL1 := hid (show (ordBy (fun i => (RankM.get l i).2.2) l.length).length ≤ 100000 by rw [(ordBy_spec _ _).1.1]; omega)
    have HL2 := hid (show (ordBy (fun i => (RankM.get l i).2.1) l.length).length ≤ 100000 by rw [(ordBy_spec _ _).1.1]; omega)
    clear ed ee
    generalize ordBy (fun i => (RankM.get l i).2.2) l.length = q1 at *
    generalize ordBy (fun i => (RankM.get l i).2.1) l.length = q2 at *
    have HE1 := hid (fun (p r : Option Addr) (j k : Nat) (W : World) (hp : Row W p q1) (hr : Row W r q1) => (by
      have := iequal_any p r j k q1 q1 W hp hr HL1.out
      rw [decide_eq_true rfl] at this
      exact this : Calls Try.prog 14 #[.slice p q1.length j, .slice r q1.length k] W fun e w' => e = .returned (.bool true) ∧ Below W.heap.size W w'))
    have HE2 := hid (fun (p r : Option Addr) (j k : Nat) (W : World) (hp : Row W p q2) (hr : Row W r q2) => (by
      have := iequal_any p r j k q2 q2 W hp hr HL2.out
      rw [decide_eq_true rfl] at this
      exact this : Calls Try.prog 14 #[.slice p q2.length j, .slice r q2.length k] W fun e w' => e = .returned (.bool true) ∧ Below W.heap.size W w'))
    by_cases h2 : OrdP l.length o
    · have ok := ofE_ok h1 h2
      have HRT := hid (fun (W : World) (h : Below w.heap.size w W) => (by
        have := rightOrder_any o l.length b cb W (Row.below hr2 h (Nat.le_refl _)) (by rw [h2.1]; omega)
        rw [decide_eq_true h2] at this
        exact this : Calls Try.prog 18 #[.int .i64 l.length, .slice b o.length cb] W fun e w' => e = .returned (.bool true) ∧ Below W.heap.size W w'))
      have HSR := hid (fun (W : World) (h : Below w.heap.size w W) => SpanC.right_any size c cc sl W (hs.below h (Nat.le_refl _)))
      have HOD := hid (fun (W : World) (h : Below w.heap.size w W) => Ordered_any l o a b ca cb W (hr.below h (Nat.le_refl _)) (Row.below hr2 h (Nat.le_refl _)) (fun i hi => h2.bd hi) (by rw [h2.1]; exact hl) hl)
      have HEQ := hid (fun (p r : Option Addr) (j k : Nat) (W : World) (hp : Tks W p (ord l o)) (hr : Tks W r (ord l o)) => tequal_same p r (ord l o).length j k (ord l o) W hp hr rfl (by rw [ord_len, h2.1]; omega))
      have ege : gdE l o size sl = chk size sl := by unfold gdE; rw [if_pos ok.1]
      rw [ok.1, ok.2] at HO
      by_cases h3 : chk size sl = 0
      · have HGO := hid (fun (W : World) (h : Below w.heap.size w W) => GoodOrder_any l o size sl a b c ca cb cc W (hr.below h (Nat.le_refl _)) (Row.below hr2 h (Nat.le_refl _)) (hs.below h (Nat.le_refl _)) h1 h2 h3)
        have egb : gdB l o size sl = decide ((0 : Int) ∉ tbl (ord l o) size sl o.length) := by
          unfold gdB
          rw [ege, h3]
          simp
        rw [egb, ege, h3] at HG
        rw [h3] at HSR
        clear hr hr2 hs h1 h2 h3 ok ege egb
        generalize decide ((0 : Int) ∉ tbl (ord l o) size sl o.length) = G at *
        generalize ord l o = M at *
        have hG : G = true ∨ G = false := by cases G <;> simp
        rcases hG with rfl | rfl
        all_goals
          go_enter Try.func3, Try.ntmps3
          go_wp2_with fail
          refine (HD.out _ (B1.start w _ _).bel).mono ?_
          rintro e w1 ⟨⟨v, rfl, ho⟩, b1⟩
          have HB1 := hid ((B1.start w #[.int .i64 size, .slice c sl.length cc] 26).step b1)
          obtain ⟨a1, k1, rfl, hr1, _⟩ := OwnI.row ho
          have HP1 := hid hr1
          clear b1 ho hr1
          go_wp2_with fail
          refine (HV.out _ HB1.out.bel).mono ?_
          rintro e w2 ⟨⟨v, rfl, ho⟩, b2⟩
          have HB2 := hid (HB1.out.step b2)
          have HP2 := hid (Row.below HP1.out b2 (Nat.le_refl _))
          obtain ⟨a2, k2, rfl, hr2', _⟩ := OwnI.row ho
          have HQ2 := hid hr2'
          clear b2 ho hr2'
          go_wp2_with fail
          refine (HO.out _ HB2.out.bel).mono ?_
          rintro e w3 ⟨⟨v, rfl, ho⟩, b3⟩
          have HB3 := hid (HB2.out.step b3)
          have HP3 := hid (Row.below HP2.out b3 (Nat.le_refl _))
          have HQ3 := hid (Row.below HQ2.out b3 (Nat.le_refl _))
          obtain ⟨a3, k3, rfl, hm3, _, _, _⟩ := OwnTk.rows' ho
          have HM3 := hid hm3
          clear b3 ho hm3
          have c0 := HB3.out.c0 0
          have c1 := HB3.out.c0 1
          simp at c0 c1
          go_wp2_with fail
          refine (HG.out _ HB3.out.bel).mono ?_
          rintro e w4 ⟨rfl, b4⟩
          have HB4 := hid (HB3.out.step b4)
          have HP4 := hid (Row.below HP3.out b4 (Nat.le_refl _))
          have HQ4 := hid (Row.below HQ3.out b4 (Nat.le_refl _))
          have HM4 := hid (HM3.out.below b4 (Nat.le_refl _))
          clear b4 c0 c1
          go_wp2_with fail
          refine (HT.out _ HB4.out.bel).mono ?_
          rintro e w5 ⟨rfl, b5⟩
          have HB5 := hid (HB4.out.step b5)
          have HP5 := hid (Row.below HP4.out b5 (Nat.le_refl _))
          have HQ5 := hid (Row.below HQ4.out b5 (Nat.le_refl _))
          have HM5 := hid (HM4.out.below b5 (Nat.le_refl _))
          clear b5
          go_wp2_with fail
          refine (HB1'.out _ HB5.out.bel).mono ?_
          rintro e w6 ⟨⟨v, rfl, ho⟩, b6⟩
          have HB6 := hid (HB5.out.step b6)
          have HP6 := hid (Row.below HP5.out b6 (Nat.le_refl _))
          have HQ6 := hid (Row.below HQ5.out b6 (Nat.le_refl _))
          have HM6 := hid (HM5.out.below b6 (Nat.le_refl _))
          obtain ⟨a6, k6, rfl, hr6, _⟩ := OwnI.row ho
          have HR6 := hid hr6
          clear b6 ho hr6
          go_wp2_with fail
          refine (HE1.out _ _ _ _ _ HP6.out HR6.out).mono ?_
          rintro e w7 ⟨rfl, b7⟩
          have HB7 := hid (HB6.out.step b7)
          have HQ7 := hid (Row.below HQ6.out b7 (Nat.le_refl _))
          have HM7 := hid (HM6.out.below b7 (Nat.le_refl _))
          clear b7
          go_wp2_with fail
          refine (HB2'.out _ HB7.out.bel).mono ?_
          rintro e w8 ⟨⟨v, rfl, ho⟩, b8⟩
          have HB8 := hid (HB7.out.step b8)
          have HQ8 := hid (Row.below HQ7.out b8 (Nat.le_refl _))
          have HM8 := hid (HM7.out.below b8 (Nat.le_refl _))
          obtain ⟨a8, k8, rfl, hr8, _⟩ := OwnI.row ho
          have HR8 := hid hr8
          clear b8 ho hr8
          go_wp2_with fail
          refine (HE2.out _ _ _ _ _ HQ8.out HR8.out).mono ?_
          rintro e w9 ⟨rfl, b9⟩
          have HB9 := hid (HB8.out.step b9)
          have HM9 := hid (HM8.out.below b9 (Nat.le_refl _))
          clear b9
          go_wp2_with fail
          refine (HRT.out _ HB9.out.bel).mono ?_
          rintro e w10 ⟨rfl, b10⟩
          have HB10 := hid (HB9.out.step b10)
          have HM10 := hid (HM9.out.below b10 (Nat.le_refl _))
          clear b10
          have c0 := HB10.out.c0 0
          have c1 := HB10.out.c0 1
          simp at c0 c1
          go_wp2_with fail
          refine (HSR.out _ HB10.out.bel).mono ?_
          rintro e w11 ⟨rfl, b11⟩
          have HB11 := hid (HB10.out.step b11)
          have HM11 := hid (HM10.out.below b11 (Nat.le_refl _))
          clear b11 c0 c1
          go_wp2_with fail
          refine (HOD.out _ HB11.out.bel).mono ?_
          rintro e w12 ⟨⟨v, rfl, ho⟩, b12⟩
          have HB12 := hid (HB11.out.step b12)
          have HM12 := hid (HM11.out.below b12 (Nat.le_refl _))
          obtain ⟨a12, k12, rfl, hm12, _, _, _⟩ := OwnTk.rows' ho
          have HN12 := hid hm12
          clear b12 ho hm12
          go_wp2_with fail
          refine (HEQ.out _ _ _ _ _ HM12.out HN12.out).mono ?_
          rintro e w13 ⟨rfl, b13⟩
          have HB13 := hid (HB12.out.step b13)
          clear b13
          have c0 := HB13.out.c0 0
          have c1 := HB13.out.c0 1
          simp at c0 c1
          go_wp2_with fail
          refine (HGO.out _ HB13.out.bel).mono ?_
          rintro e w14 ⟨rfl, b14⟩
          have HB14 := hid (HB13.out.step b14)
          clear b14 c0 c1
          go_wp2_with fail
          go_ret
          exact ⟨rfl, HB14.out.bel⟩
      · have egb : gdB l o size sl = false := gdB_no (by rw [ege]; exact h3)
        rw [egb, ege] at HG
        have n3 : (chk size sl == 0) = false := by simpa using h3
        clear hr hr2 hs h1 h2 h3 ok ege egb
        generalize chk size sl = z at *
        generalize ord l o = M at *
        go_enter Try.func3, Try.ntmps3
        go_wp2_with fail
        refine (HD.out _ (B1.start w _ _).bel).mono ?_
        rintro e w1 ⟨⟨v, rfl, ho⟩, b1⟩
        have HB1 := hid ((B1.start w #[.int .i64 size, .slice c sl.length cc] 26).step b1)
        obtain ⟨a1, k1, rfl, hr1, _⟩ := OwnI.row ho
        have HP1 := hid hr1
        clear b1 ho hr1
        go_wp2_with fail
        refine (HV.out _ HB1.out.bel).mono ?_
        rintro e w2 ⟨⟨v, rfl, ho⟩, b2⟩
        have HB2 := hid (HB1.out.step b2)
        have HP2 := hid (Row.below HP1.out b2 (Nat.le_refl _))
        obtain ⟨a2, k2, rfl, hr2', _⟩ := OwnI.row ho
        have HQ2 := hid hr2'
        clear b2 ho hr2'
        go_wp2_with fail
        refine (HO.out _ HB2.out.bel).mono ?_
        rintro e w3 ⟨⟨v, rfl, ho⟩, b3⟩
        have HB3 := hid (HB2.out.step b3)
        have HP3 := hid (Row.below HP2.out b3 (Nat.le_refl _))
        have HQ3 := hid (Row.below HQ2.out b3 (Nat.le_refl _))
        obtain ⟨a3, k3, rfl, hm3, _, _, _⟩ := OwnTk.rows' ho
        have HM3 := hid hm3
        clear b3 ho hm3
        have c0 := HB3.out.c0 0
        have c1 := HB3.out.c0 1
        simp at c0 c1
        go_wp2_with fail
        refine (HG.out _ HB3.out.bel).mono ?_
        rintro e w4 ⟨rfl, b4⟩
        have HB4 := hid (HB3.out.step b4)
        have HP4 := hid (Row.below HP3.out b4 (Nat.le_refl _))
        have HQ4 := hid (Row.below HQ3.out b4 (Nat.le_refl _))
        have HM4 := hid (HM3.out.below b4 (Nat.le_refl _))
        clear b4 c0 c1
        go_wp2_with fail
        refine (HT.out _ HB4.out.bel).mono ?_
        rintro e w5 ⟨rfl, b5⟩
        have HB5 := hid (HB4.out.step b5)
        have HP5 := hid (Row.below HP4.out b5 (Nat.le_refl _))
        have HQ5 := hid (Row.below HQ4.out b5 (Nat.le_refl _))
        have HM5 := hid (HM4.out.below b5 (Nat.le_refl _))
        clear b5
        go_wp2_with fail
        refine (HB1'.out _ HB5.out.bel).mono ?_
        rintro e w6 ⟨⟨v, rfl, ho⟩, b6⟩
        have HB6 := hid (HB5.out.step b6)
        have HP6 := hid (Row.below HP5.out b6 (Nat.le_refl _))
        have HQ6 := hid (Row.below HQ5.out b6 (Nat.le_refl _))
        have HM6 := hid (HM5.out.below b6 (Nat.le_refl _))
        obtain ⟨a6, k6, rfl, hr6, _⟩ := OwnI.row ho
        have HR6 := hid hr6
        clear b6 ho hr6
        go_wp2_with fail
        refine (HE1.out _ _ _ _ _ HP6.out HR6.out).mono ?_
        rintro e w7 ⟨rfl, b7⟩
        have HB7 := hid (HB6.out.step b7)
        have HQ7 := hid (Row.below HQ6.out b7 (Nat.le_refl _))
        have HM7 := hid (HM6.out.below b7 (Nat.le_refl _))
        clear b7
        go_wp2_with fail
        refine (HB2'.out _ HB7.out.bel).mono ?_
        rintro e w8 ⟨⟨v, rfl, ho⟩, b8⟩
        have HB8 := hid (HB7.out.step b8)
        have HQ8 := hid (Row.below HQ7.out b8 (Nat.le_refl _))
        have HM8 := hid (HM7.out.below b8 (Nat.le_refl _))
        obtain ⟨a8, k8, rfl, hr8, _⟩ := OwnI.row ho
        have HR8 := hid hr8
        clear b8 ho hr8
        go_wp2_with fail
        refine (HE2.out _ _ _ _ _ HQ8.out HR8.out).mono ?_
        rintro e w9 ⟨rfl, b9⟩
        have HB9 := hid (HB8.out.step b9)
        have HM9 := hid (HM8.out.below b9 (Nat.le_refl _))
        clear b9
        go_wp2_with fail
        refine (HRT.out _ HB9.out.bel).mono ?_
        rintro e w10 ⟨rfl, b10⟩
        have HB10 := hid (HB9.out.step b10)
        have HM10 := hid (HM9.out.below b10 (Nat.le_refl _))
        clear b10
        have c0 := HB10.out.c0 0
        have c1 := HB10.out.c0 1
        simp at c0 c1
        go_wp2_with fail
        refine (HSR.out _ HB10.out.bel).mono ?_
        rintro e w11 ⟨rfl, b11⟩
        have HB11 := hid (HB10.out.step b11)
        have HM11 := hid (HM10.out.below b11 (Nat.le_refl _))
        clear b11 c0 c1
        go_wp2_with fail
        refine (HOD.out _ HB11.out.bel).mono ?_
        rintro e w12 ⟨⟨v, rfl, ho⟩, b12⟩
        have HB12 := hid (HB11.out.step b12)
        have HM12 := hid (HM11.out.below b12 (Nat.le_refl _))
        obtain ⟨a12, k12, rfl, hm12, _, _, _⟩ := OwnTk.rows' ho
        have HN12 := hid hm12
        clear b12 ho hm12
        go_wp2_with fail
        refine (HEQ.out _ _ _ _ _ HM12.out HN12.out).mono ?_
        rintro e w13 ⟨rfl, b13⟩
        have HB13 := hid (HB12.out.step b13)
        clear b13
        go_wp2_with fail
        go_ret
        exact ⟨by simp, HB13.out.bel⟩
    · have eo : ofE l o = 4 := by unfold ofE; rw [if_pos h1, if_neg h2]
      have eol : ofL l o = [] := by unfold ofL; rw [if_neg (fun h => h2 h.2)]
      have ege : gdE l o size sl = 4 := by unfold gdE; rw [if_neg (by rw [eo]; decide), eo]
      have egb : gdB l o size sl = false := gdB_no (by rw [ege]; decide)
      have HRT := hid (fun (W : World) (h : Below w.heap.size w W) => (by
        have := rightOrder_big o l.length b cb W (Row.below hr2 h (Nat.le_refl _)) hl
        rw [decide_eq_false h2] at this
        exact this : Calls Try.prog 18 #[.int .i64 l.length, .slice b o.length cb] W fun e w' => e = .returned (.bool false) ∧ Below W.heap.size W w'))
      rw [eo, eol] at HO
      rw [ege, egb] at HG
      clear hr hr2 hs h1 h2 eo eol ege egb
      go_enter Try.func3, Try.ntmps3
      go_wp2_with fail
      refine (HD.out _ (B1.start w _ _).bel).mono ?_
      rintro e w1 ⟨⟨v, rfl, ho⟩, b1⟩
      have HB1 := hid ((B1.start w #[.int .i64 size, .slice c sl.length cc] 26).step b1)
      obtain ⟨a1, k1, rfl, hr1, _⟩ := OwnI.row ho
      have HP1 := hid hr1
      clear b1 ho hr1
      go_wp2_with fail
      refine (HV.out _ HB1.out.bel).mono ?_
      rintro e w2 ⟨⟨v, rfl, ho⟩, b2⟩
      have HB2 := hid (HB1.out.step b2)
      have HP2 := hid (Row.below HP1.out b2 (Nat.le_refl _))
      obtain ⟨a2, k2, rfl, hr2', _⟩ := OwnI.row ho
      have HQ2 := hid hr2'
      clear b2 ho hr2'
      go_wp2_with fail
      refine (HO.out _ HB2.out.bel).mono ?_
      rintro e w3 ⟨⟨v, rfl, ho⟩, b3⟩
      have HB3 := hid (HB2.out.step b3)
      have HP3 := hid (Row.below HP2.out b3 (Nat.le_refl _))
      have HQ3 := hid (Row.below HQ2.out b3 (Nat.le_refl _))
      obtain ⟨a3, k3, rfl, hm3, _, _, _⟩ := OwnTk.rows' ho
      have HM3 := hid hm3
      clear b3 ho hm3
      have c0 := HB3.out.c0 0
      have c1 := HB3.out.c0 1
      simp at c0 c1
      go_wp2_with fail
      refine (HG.out _ HB3.out.bel).mono ?_
      rintro e w4 ⟨rfl, b4⟩
      have HB4 := hid (HB3.out.step b4)
      have HP4 := hid (Row.below HP3.out b4 (Nat.le_refl _))
      have HQ4 := hid (Row.below HQ3.out b4 (Nat.le_refl _))
      have HM4 := hid (HM3.out.below b4 (Nat.le_refl _))
      clear b4 c0 c1
      go_wp2_with fail
      refine (HT.out _ HB4.out.bel).mono ?_
      rintro e w5 ⟨rfl, b5⟩
      have HB5 := hid (HB4.out.step b5)
      have HP5 := hid (Row.below HP4.out b5 (Nat.le_refl _))
      have HQ5 := hid (Row.below HQ4.out b5 (Nat.le_refl _))
      have HM5 := hid (HM4.out.below b5 (Nat.le_refl _))
      clear b5
      go_wp2_with fail
      refine (HB1'.out _ HB5.out.bel).mono ?_
      rintro e w6 ⟨⟨v, rfl, ho⟩, b6⟩
      have HB6 := hid (HB5.out.step b6)
      have HP6 := hid (Row.below HP5.out b6 (Nat.le_refl _))
      have HQ6 := hid (Row.below HQ5.out b6 (Nat.le_refl _))
      have HM6 := hid (HM5.out.below b6 (Nat.le_refl _))
      obtain ⟨a6, k6, rfl, hr6, _⟩ := OwnI.row ho
      have HR6 := hid hr6
      clear b6 ho hr6
      go_wp2_with fail
      refine (HE1.out _ _ _ _ _ HP6.out HR6.out).mono ?_
      rintro e w7 ⟨rfl, b7⟩
      have HB7 := hid (HB6.out.step b7)
      have HQ7 := hid (Row.below HQ6.out b7 (Nat.le_refl _))
      have HM7 := hid (HM6.out.below b7 (Nat.le_refl _))
      clear b7
      go_wp2_with fail
      refine (HB2'.out _ HB7.out.bel).mono ?_
      rintro e w8 ⟨⟨v, rfl, ho⟩, b8⟩
      have HB8 := hid (HB7.out.step b8)
      have HQ8 := hid (Row.below HQ7.out b8 (Nat.le_refl _))
      have HM8 := hid (HM7.out.below b8 (Nat.le_refl _))
      obtain ⟨a8, k8, rfl, hr8, _⟩ := OwnI.row ho
      have HR8 := hid hr8
      clear b8 ho hr8
      go_wp2_with fail
      refine (HE2.out _ _ _ _ _ HQ8.out HR8.out).mono ?_
      rintro e w9 ⟨rfl, b9⟩
      have HB9 := hid (HB8.out.step b9)
      have HM9 := hid (HM8.out.below b9 (Nat.le_refl _))
      clear b9
      go_wp2_with fail
      refine (HRT.out _ HB9.out.bel).mono ?_
      rintro e w10 ⟨rfl, b10⟩
      have HB10 := hid (HB9.out.step b10)
      have HM10 := hid (HM9.out.below b10 (Nat.le_refl _))
      clear b10
      go_wp2_with fail
      go_ret
      exact ⟨rfl, HB10.out.bel⟩
  · have eo : ofE l o = tchk l := by unfold ofE; rw [if_neg h1]
    have eol : ofL l o = [] := by unfold ofL; rw [if_neg (fun h => h1 h.1)]
    have ege : gdE l o size sl = tchk l := by unfold gdE; rw [if_neg (by rw [eo]; exact h1), eo]
    have egb : gdB l o size sl = false := gdB_no (by rw [ege]; exact h1)
    have ed : ∀ key, ordE key l = [] := fun key => by unfold ordE; rw [if_neg h1]
    have n1 : (tchk l != 0) = true := by simpa using h1
    rw [eo, eol] at HO
    rw [ege, egb] at HG
    rw [ed] at HD HV
    clear hr hr2 hs h1 eo eol ege egb ed
    generalize tchk l = z at *
    go_enter Try.func3, Try.ntmps3
    go_wp2_with fail
    refine (HD.out _ (B1.start w _ _).bel).mono ?_
    rintro e w1 ⟨⟨v, rfl, ho⟩, b1⟩
    have HB1 := hid ((B1.start w #[.int .i64 size, .slice c sl.length cc] 26).step b1)
    obtain ⟨a1, k1, rfl, hr1, _⟩ := OwnI.row ho
    have HP1 := hid hr1
    clear b1 ho hr1
    go_wp2_with fail
    refine (HV.out _ HB1.out.bel).mono ?_
    rintro e w2 ⟨⟨v, rfl, ho⟩, b2⟩
    have HB2 := hid (HB1.out.step b2)
    have HP2 := hid (Row.below HP1.out b2 (Nat.le_refl _))
    obtain ⟨a2, k2, rfl, hr2', _⟩ := OwnI.row ho
    have HQ2 := hid hr2'
    clear b2 ho hr2'
    go_wp2_with fail
    refine (HO.out _ HB2.out.bel).mono ?_
    rintro e w3 ⟨⟨v, rfl, ho⟩, b3⟩
    have HB3 := hid (HB2.out.step b3)
    have HP3 := hid (Row.below HP2.out b3 (Nat.le_refl _))
    have HQ3 := hid (Row.below HQ2.out b3 (Nat.le_refl _))
    obtain ⟨a3, k3, rfl, hm3, _, _, _⟩ := OwnTk.rows' ho
    have HM3 := hid hm3
    clear b3 ho hm3
    have c0 := HB3.out.c0 0
    have c1 := HB3.out.c0 1
    simp at c0 c1
    go_wp2_with fail
    refine (HG.out _ HB3.out.bel).mono ?_
    rintro e w4 ⟨rfl, b4⟩
    have HB4 := hid (HB3.out.step b4)
    have HP4 := hid (Row.below HP3.out b4 (Nat.le_refl _))
    have HQ4 := hid (Row.below HQ3.out b4 (Nat.le_refl _))
    have HM4 := hid (HM3.out.below b4 (Nat.le_refl _))
    clear b4 c0 c1
    go_wp2_with fail
    refine (HT.out _ HB4.out.bel).mono ?_
    rintro e w5 ⟨rfl, b5⟩
    have HB5 := hid (HB4.out.step b5)
    have HP5 := hid (Row.below HP4.out b5 (Nat.le_refl _))
    have HQ5 := hid (Row.below HQ4.out b5 (Nat.le_refl _))
    have HM5 := hid (HM4.out.below b5 (Nat.le_refl _))
    clear b5
    go_wp2_with fail
    go_ret
    exact ⟨by simp, HB5.out.bel⟩
theorem rankSays_walk (a0 : Option Addr) (len0 cap0 : Nat) (l0 : List TaskM.Tk) (a1 : Option Addr) (len1 cap1 : Nat) (l1 : List Int) (s2 : Int) (a2 : Option Addr) (len2 cap2 : Nat) (l2 : List Sp) (w : World)
    (w0 : RowsO.IsTks w a0 len0 cap0 l0) (w1 : RowsO.IsIns w a1 len1 cap1 l1) (x2 : SpanC.wf64 s2) (w2 : SpanC.IsSps w a2 len2 cap2 l2) :
    Calls Try.prog 3 #[.slice a0 len0 cap0, .slice a1 len1 cap1, .agg #[.int .i64 s2, .slice a2 len2 cap2]] w fun e w' => e = .returned (.bool true) ∧ Below w.heap.size w w' := by
  obtain ⟨rfl, hc, _, hr, _⟩ := w0
  obtain ⟨rfl, _, _, hf, _⟩ := w1
  obtain ⟨rfl, _, _, hs, _⟩ := w2
  exact rankSays_any l0 l1 s2 l2 a0 a1 a2 cap0 cap1 cap2 w hr hf hs hc
end RankC
end Go.Proofs.Ytnbfadfhpegddaa
