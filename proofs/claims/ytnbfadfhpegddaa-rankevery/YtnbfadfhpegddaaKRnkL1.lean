/- Several texts, one behind the other: RnkL1. -/
import Derived.Test.YtnbfadfhpegddaaKRnkH
/- The walks of RankAudsley and RankDue. -/
set_option linter.unusedVariables false
namespace Go.Proofs.Ytnbfadfhpegddaa
open Go.RowKit hiding tok
open Go.Shelf Go.Sort
open SpanM SupM SpanC TaskM PlayM RankM
open RowsO hiding Tk
namespace RankC
open TaskC (tchk tchkG tchk_zero tchk_of tchk_bd tcheck_any tk_snoc tk_mem)
open NumC (Row)
open RepC (OwnI.row OwnI.set OwnI.frozen OwnI.base' OwnI.made made_zero rchk rchk_zero)
open PlayC (Row.below box_cell box_alloc box_new)
theorem gdE_zero {l : List Tk} {o : List Int} {size : Int} {sl : List Sp} (h : gdE l o size sl = 0) : tchk l = 0 ∧ OrdP l.length o ∧ chk size sl = 0 := by
  unfold gdE at h
  split at h
  · obtain ⟨h1, h2⟩ := ofE_zero ‹_›
    exact ⟨h1, h2, h⟩
  · exact absurd h ‹_›
theorem gdE_ord {l : List Tk} {o : List Int} {size : Int} {sl : List Sp} (h1 : tchk l = 0) (h2 : OrdP l.length o) (h3 : chk size sl = 0) : gdE l o size sl = 0 := by
  unfold gdE ofE
  rw [if_pos h1, if_pos h2, if_pos rfl, h3]
theorem gdB_no {l : List Tk} {o : List Int} {size : Int} {sl : List Sp} (h : gdE l o size sl ≠ 0) : gdB l o size sl = false := by
  unfold gdB
  rw [decide_eq_false (fun k => h k.1)]
/-- where none is found no order is good -/
theorem none_bad {l : List Tk} {o : List Int} {size : Int} {sl : List Sp} (h : rchk l size sl = 0) (hf : fnd l size sl = none) : gdB l o size sl = false := by
  obtain ⟨h1, h2⟩ := rchk_zero h
  have hs := fnd_spec l size sl
  rw [hf] at hs
  by_cases hb : gdB l o size sl = true
  · obtain ⟨e0, hg⟩ := gdB_iff.1 hb
    obtain ⟨_, ho, _⟩ := gdE_zero e0
    refine absurd hg (hs.bad (fun i hi => ?_) rfl o ho.perm.symm)
    obtain ⟨i0, i1⟩ := mem_nums.1 hi
    exact (tchk_zero h1).2 _ (get_mem i0 i1)
  · simpa using hb
theorem some_good {l : List Tk} {q : List Int} {size : Int} {sl : List Sp} (h : rchk l size sl = 0) (hf : fnd l size sl = some q) : gdE l q size sl = 0 ∧ gdB l q size sl = true := by
  obtain ⟨h1, h2⟩ := rchk_zero h
  have hs := fnd_spec l size sl
  rw [hf] at hs
  obtain ⟨p1, p2⟩ := hs.good q rfl
  have e0 := gdE_ord h1 (OrdP.of_perm p1) h2
  exact ⟨e0, gdB_iff.2 ⟨e0, p2⟩⟩
theorem due_ok {l : List Tk} {o : List Int} {size : Int} {sl : List Sp} (h : gdB l o size sl = true) : gdE l (ordE (fun x => x.2.2) l) size sl = 0 ∧ gdB l (ordE (fun x => x.2.2) l) size sl = true := by
  obtain ⟨e0, hg⟩ := gdB_iff.1 h
  obtain ⟨h1, ho, h3⟩ := gdE_zero e0
  have hq : ByP (fun x => x.2.2) l (ordE (fun x => x.2.2) l) := by unfold ordE; rw [if_pos h1]; exact ordBy_byP _ _
  have e1 := gdE_ord h1 hq.1 h3
  exact ⟨e1, gdB_iff.2 ⟨e1, due_good (tchk_zero h1).2 ho hq hg⟩⟩
theorem every_ok {l : List Tk} {o : List Int} {size : Int} {sl : List Sp} (hd : ∀ x ∈ l, x.2.2 = x.2.1) (h : gdB l o size sl = true) : gdE l (ordE (fun x => x.2.1) l) size sl = 0 ∧ gdB l (ordE (fun x => x.2.1) l) size sl = true := by
  obtain ⟨e0, hg⟩ := gdB_iff.1 h
  obtain ⟨h1, ho, h3⟩ := gdE_zero e0
  have hq : ByP (fun x => x.2.1) l (ordE (fun x => x.2.1) l) := by unfold ordE; rw [if_pos h1]; exact ordBy_byP _ _
  have e1 := gdE_ord h1 hq.1 h3
  exact ⟨e1, gdB_iff.2 ⟨e1, every_good (tchk_zero h1).2 hd ho hq hg⟩⟩
set_option maxRecDepth 20000 in
set_option maxHeartbeats 1600000 in
theorem rankAudsley_any (l : List Tk) (o : List Int) (size : Int) (sl : List Sp) (a b c : Option Addr) (ca cb cc : Nat) (w : World) (hr : Tks w a l) (hr2 : Row w b o) (hs : Sps w c sl) (hc : l.length ≤ ca) :
    Calls Try.prog 5 #[.slice a l.length ca, .slice b o.length cb, .agg #[.int .i64 size, .slice c sl.length cc]] w fun e w' => e = .returned (.bool true) ∧ Below w.heap.size w w' := by
  have HF := hid (fun (W : World) (h : Below w.heap.size w W) => Find_any l size sl a c ca cc W (hr.below h (Nat.le_refl _)) (hs.below h (Nat.le_refl _)) hc)
  have HG := hid (fun (q : List Int) (p : Option Addr) (k : Nat) (W : World) (h : Below w.heap.size w W) (hq : Row W p q) => Good_any l q size sl a p c ca k cc W (hr.below h (Nat.le_refl _)) hq (hs.below h (Nat.le_refl _)) hc)
  have HGO := hid (fun (W : World) (h : Below w.heap.size w W) => Good_any l o size sl a b c ca cb cc W (hr.below h (Nat.le_refl _)) (Row.below hr2 h (Nat.le_refl _)) (hs.below h (Nat.le_refl _)) hc)
  have hL := hid lives
  clear hr hr2 hs
  by_cases h0 : rchk l size sl = 0
  · have eE : fndE l size sl = someE (fnd l size sl) := by unfold fndE; rw [if_pos h0]
    have eL : fndL l size sl = (fnd l size sl).getD [] := by unfold fndL; rw [if_pos h0]
    rw [eE, eL] at HF
    cases hf : fnd l size sl with
    | none =>
      rw [hf] at HF
      have hbad := none_bad (o := o) h0 hf
      rw [hbad] at HGO
      simp only [someE, Option.getD_none] at HF
      clear h0 eE eL hf hbad HG
      by_cases hz : gdE l o size sl = 0
      all_goals
        first | rw [hz] at HGO | have hn : (gdE l o size sl != 0) = true := by simpa using hz
        try generalize gdE l o size sl = z at *
        clear hz
        go_enter Try.func5, Try.ntmps5
        go_wp2_with fail
        refine (HF.out _ (B1.start w _ _).bel).mono ?_
        rintro e w1 ⟨⟨v, rfl, ho⟩, b1⟩
        have HB1 := hid ((B1.start w #[.int .i64 size, .slice c sl.length cc] 26).step b1)
        obtain ⟨a1, k1, rfl, hr1, _⟩ := OwnI.row ho
        clear b1 ho hr1
        go_wp2_with fail
        refine (hL.out _).mono ?_
        rintro e w2 ⟨rfl, b2⟩
        have HB2 := hid (HB1.out.step b2)
        have c0 := HB2.out.c0 0
        have c1 := HB2.out.c0 1
        simp at c0 c1
        clear b2
        go_wp2_with fail
        refine (HGO.out _ HB2.out.bel).mono ?_
        rintro e w3 ⟨rfl, b3⟩
        have HB3 := hid (HB2.out.step b3)
        clear b3 c0 c1
        go_wp2_with fail
        go_ret
        exact ⟨rfl, HB3.out.bel⟩
    | some q =>
      rw [hf] at HF
      obtain ⟨g1, g2⟩ := some_good h0 hf
      have HGQ := hid (fun (p : Option Addr) (k : Nat) (W : World) (h : Below w.heap.size w W) (hq : Row W p q) => HG.out q p k W h hq)
      rw [g1, g2] at HGQ
      simp only [someE, Option.getD_some] at HF
      clear h0 eE eL hf HG g1 g2
      generalize gdE l o size sl = z at *
      generalize gdB l o size sl = y at *
      go_enter Try.func5, Try.ntmps5
      go_wp2_with fail
      refine (HF.out _ (B1.start w _ _).bel).mono ?_
      rintro e w1 ⟨⟨v, rfl, ho⟩, b1⟩
      have HB1 := hid ((B1.start w #[.int .i64 size, .slice c sl.length cc] 26).step b1)
      obtain ⟨a1, k1, rfl, hr1, _⟩ := OwnI.row ho
      have HR1 := hid hr1
      clear b1 ho hr1
      go_wp2_with fail
      refine (hL.out _).mono ?_
      rintro e w2 ⟨rfl, b2⟩
      have HB2 := hid (HB1.out.step b2)
      have HR2 := hid (Row.below HR1.out b2 (Nat.le_refl _))
      have c0 := HB2.out.c0 0
      have c1 := HB2.out.c0 1
      simp at c0 c1
      clear b2
      go_wp2_with fail
      refine (HGO.out _ HB2.out.bel).mono ?_
      rintro e w3 ⟨rfl, b3⟩
      have HB3 := hid (HB2.out.step b3)
      have HR3 := hid (Row.below HR2.out b3 (Nat.le_refl _))
      clear b3 c0 c1
      have c0 := HB3.out.c0 0
      have c1 := HB3.out.c0 1
      simp at c0 c1
      go_wp2_with fail
      refine (HGQ.out _ _ _ HB3.out.bel HR3.out).mono ?_
      rintro e w4 ⟨rfl, b4⟩
      have HB4 := hid (HB3.out.step b4)
      clear b4 c0 c1
      go_wp2_with fail
      go_ret
      exact ⟨rfl, HB4.out.bel⟩
  · have eE : fndE l size sl = rchk l size sl := by unfold fndE; rw [if_neg h0]
    have eL : fndL l size sl = [] := by unfold fndL; rw [if_neg h0]
    rw [eE, eL] at HF
    have n0 : (rchk l size sl != 0) = true := by simpa using h0
    have n11 : (rchk l size sl != 11) = true := by simpa using rchk_11 l size sl
    clear h0 eE eL HG HGO
    generalize rchk l size sl = z at *
    go_enter Try.func5, Try.ntmps5
    go_wp2_with fail
    refine (HF.out _ (B1.start w _ _).bel).mono ?_
    rintro e w1 ⟨⟨v, rfl, ho⟩, b1⟩
    have HB1 := hid ((B1.start w #[.int .i64 size, .slice c sl.length cc] 26).step b1)
    obtain ⟨a1, k1, rfl, hr1, _⟩ := OwnI.row ho
    clear b1 ho hr1
    simp only [List.length_nil]
    go_wp2_with fail
    refine (hL.out _).mono ?_
    rintro e w2 ⟨rfl, b2⟩
    have HB2 := hid (HB1.out.step b2)
    clear b2
    go_wp2_with fail
    refine (hL.out _).mono ?_
    rintro e w3 ⟨rfl, b3⟩
    have HB3 := hid (HB2.out.step b3)
    clear b3
    go_wp2_with fail
    go_ret
    exact ⟨rfl, HB3.out.bel⟩
theorem rankAudsley_walk (a0 : Option Addr) (len0 cap0 : Nat) (l0 : List TaskM.Tk) (a1 : Option Addr) (len1 cap1 : Nat) (l1 : List Int) (s2 : Int) (a2 : Option Addr) (len2 cap2 : Nat) (l2 : List Sp) (w : World)
    (w0 : RowsO.IsTks w a0 len0 cap0 l0) (w1 : RowsO.IsIns w a1 len1 cap1 l1) (x2 : SpanC.wf64 s2) (w2 : SpanC.IsSps w a2 len2 cap2 l2) :
    Calls Try.prog 5 #[.slice a0 len0 cap0, .slice a1 len1 cap1, .agg #[.int .i64 s2, .slice a2 len2 cap2]] w fun e w' => e = .returned (.bool true) ∧ Below w.heap.size w w' := by
  obtain ⟨rfl, hc, _, hr, _⟩ := w0
  obtain ⟨rfl, _, _, hf, _⟩ := w1
  obtain ⟨rfl, _, _, hs, _⟩ := w2
  exact rankAudsley_any l0 l1 s2 l2 a0 a1 a2 cap0 cap1 cap2 w hr hf hs hc
set_option maxRecDepth 20000 in
set_option maxHeartbeats 1600000 in
theorem rankDue_any (l : List Tk) (o : List Int) (size : Int) (sl : List Sp) (a b c : Option Addr) (ca cb cc : Nat) (w : World) (hr : Tks w a l) (hr2 : Row w b o) (hs : Sps w c sl) (hc : l.length ≤ ca) :
    Calls Try.prog 6 #[.slice a l.length ca, .slice b o.length cb, .agg #[.int .i64 size, .slice c sl.length cc]] w fun e w' => e = .returned (.bool true) ∧ Below w.heap.size w w' := by
  have HG := hid (fun (q : List Int) (p : Option Addr) (k : Nat) (W : World) (h : Below w.heap.size w W) (hq : Row W p q) => Good_any l q size sl a p c ca k cc W (hr.below h (Nat.le_refl _)) hq (hs.below h (Nat.le_refl _)) hc)
  have HGO := hid (fun (W : World) (h : Below w.heap.size w W) => Good_any l o size sl a b c ca cb cc W (hr.below h (Nat.le_refl _)) (Row.below hr2 h (Nat.le_refl _)) (hs.below h (Nat.le_refl _)) hc)
  have HD := hid (fun (W : World) (h : Below w.heap.size w W) => ByDue_any l a ca W (hr.below h (Nat.le_refl _)))
  have hL := hid lives
  clear hr hr2 hs
  by_cases hb : gdB l o size sl = true
  · obtain ⟨g1, g2⟩ := due_ok hb
    have e0 := (gdB_iff.1 hb).1
    have h1 := (gdE_zero e0).1
    have HGQ := hid (fun (p : Option Addr) (k : Nat) (W : World) (h : Below w.heap.size w W) (hq : Row W p (ordE (fun x => x.2.2) l)) => HG.out _ p k W h hq)
    rw [g1, g2] at HGQ
    rw [hb, e0] at HGO
    rw [h1] at HD
    clear hb g1 g2 e0 h1 HG
    generalize ordE (fun x => x.2.2) l = q at *
    go_enter Try.func6, Try.ntmps6
    go_wp2_with fail
    refine (HGO.out _ (B1.start w _ _).bel).mono ?_
    rintro e w1 ⟨rfl, b1⟩
    have HB1 := hid ((B1.start w #[.int .i64 size, .slice c sl.length cc] 26).step b1)
    clear b1
    go_wp2_with fail
    refine (HD.out _ HB1.out.bel).mono ?_
    rintro e w2 ⟨⟨v, rfl, ho⟩, b2⟩
    have HB2 := hid (HB1.out.step b2)
    obtain ⟨a1, k1, rfl, hr1, _⟩ := OwnI.row ho
    have HR2 := hid hr1
    clear b2 ho hr1
    go_wp2_with fail
    refine (hL.out _).mono ?_
    rintro e w3 ⟨rfl, b3⟩
    have HB3 := hid (HB2.out.step b3)
    have HR3 := hid (Row.below HR2.out b3 (Nat.le_refl _))
    clear b3
    have c0 := HB3.out.c0 0
    have c1 := HB3.out.c0 1
    simp at c0 c1
    go_wp2_with fail
    refine (HGQ.out _ _ _ HB3.out.bel HR3.out).mono ?_
    rintro e w4 ⟨rfl, b4⟩
    have HB4 := hid (HB3.out.step b4)
    clear b4 c0 c1
    go_wp2_with fail
    go_ret
    exact ⟨rfl, HB4.out.bel⟩
  · have hb2 : gdB l o size sl = false := by simpa using hb
    have hcase : gdE l o size sl ≠ 0 ∨ (gdE l o size sl = 0 ∧ tchk l = 0) := by
      by_cases h : gdE l o size sl = 0
      · exact .inr ⟨h, (gdE_zero h).1⟩
      · exact .inl h
    rw [hb2] at HGO
    clear hb hb2 HG
    generalize ordE (fun x => x.2.2) l = q at *
    rcases hcase with hz | ⟨hz, ht⟩
    all_goals
      first | (rw [hz] at HGO; rw [ht] at HD; clear ht) | have hn : (gdE l o size sl != 0) = true := by simpa using hz
      try generalize gdE l o size sl = z at *
      try generalize tchk l = y at *
      clear hz
      go_enter Try.func6, Try.ntmps6
      go_wp2_with fail
      refine (HGO.out _ (B1.start w _ _).bel).mono ?_
      rintro e w1 ⟨rfl, b1⟩
      have HB1 := hid ((B1.start w #[.int .i64 size, .slice c sl.length cc] 26).step b1)
      clear b1
      go_wp2_with fail
      refine (HD.out _ HB1.out.bel).mono ?_
      rintro e w2 ⟨⟨v, rfl, ho⟩, b2⟩
      have HB2 := hid (HB1.out.step b2)
      obtain ⟨a1, k1, rfl, hr1, _⟩ := OwnI.row ho
      clear b2 ho hr1
      go_wp2_with fail
      refine (hL.out _).mono ?_
      rintro e w3 ⟨rfl, b3⟩
      have HB3 := hid (HB2.out.step b3)
      clear b3
      go_wp2_with fail
      refine (hL.out _).mono ?_
      rintro e w4 ⟨rfl, b4⟩
      have HB4 := hid (HB3.out.step b4)
      clear b4
      go_wp2_with fail
      go_ret
      exact ⟨rfl, HB4.out.bel⟩
theorem rankDue_walk (a0 : Option Addr) (len0 cap0 : Nat) (l0 : List TaskM.Tk) (a1 : Option Addr) (len1 cap1 : Nat) (l1 : List Int) (s2 : Int) (a2 : Option Addr) (len2 cap2 : Nat) (l2 : List Sp) (w : World)
    (w0 : RowsO.IsTks w a0 len0 cap0 l0) (w1 : RowsO.IsIns w a1 len1 cap1 l1) (x2 : SpanC.wf64 s2) (w2 : SpanC.IsSps w a2 len2 cap2 l2) :
    Calls Try.prog 6 #[.slice a0 len0 cap0, .slice a1 len1 cap1, .agg #[.int .i64 s2, .slice a2 len2 cap2]] w fun e w' => e = .returned (.bool true) ∧ Below w.heap.size w w' := by
  obtain ⟨rfl, hc, _, hr, _⟩ := w0
  obtain ⟨rfl, _, _, hf, _⟩ := w1
  obtain ⟨rfl, _, _, hs, _⟩ := w2
  exact rankDue_any l0 l1 s2 l2 a0 a1 a2 cap0 cap1 cap2 w hr hf hs hc
end RankC
end Go.Proofs.Ytnbfadfhpegddaa
