/- Several texts, one behind the other: RnkL3. -/
import Derived.Test.YtnbfadfhpegddaaKRnkL1
/- The walk of RankEvery. -/
set_option linter.unusedVariables false
namespace Go.Proofs.Ytnbfadfhpegddaa
open Go.RowKit hiding tok
open Go.Shelf Go.Sort
open SpanM SupM SpanC TaskM PlayM RankM
open RowsO hiding Tk
namespace RankC
open TaskC (tchk tchkG tchk_zero tchk_of tchk_bd tcheck_any tk_snoc tk_mem)
open NumC (Row)
open RepC (OwnI.row OwnI.set OwnI.frozen OwnI.base' OwnI.made made_zero rchk rchk_zero)
open PlayC (Row.below box_cell box_alloc box_new)
/-- due when the next one may come -/
def evT (x : Tk) : Tk := (x.1, x.2.1, x.2.1)
def evTo (l : List Tk) (k : Nat) : List Tk := l.mapIdx fun j x => if j < k then evT x else x
theorem evTo_len (l : List Tk) (k : Nat) : (evTo l k).length = l.length := by simp [evTo]
theorem evTo_zero (l : List Tk) : evTo l 0 = l := by
  apply List.ext_getElem
  · simp [evTo]
  · intro j h1 h2; simp [evTo]
theorem evTo_all (l : List Tk) : evTo l l.length = l.map evT := by
  apply List.ext_getElem
  · simp [evTo]
  · intro j h1 h2
    have : j < l.length := by simpa [evTo] using h1
    simp [evTo, this]
theorem evTo_at (l : List Tk) {k : Nat} (h : k < l.length) (h' : k < (evTo l k).length) : (evTo l k)[k] = l.getD k zTk := by simp [evTo, List.getD, h]
theorem evTo_set (l : List Tk) {k : Nat} (h : k < l.length) : (evTo l k).set k (evT (l.getD k zTk)) = evTo l (k + 1) := by
  have e : l.getD k zTk = l[k] := by simp [List.getD, h]
  rw [e]
  apply List.ext_getElem
  · simp [evTo]
  · intro j h1 h2
    rw [List.getElem_set]
    split
    · subst_vars; simp [evTo]
    · simp [evTo]
      by_cases c : j < k
      · rw [if_pos c, if_pos (by omega)]
      · rw [if_neg c, if_neg (by omega)]
theorem evT_due (l : List Tk) : ∀ x ∈ l.map evT, x.2.2 = x.2.1 := by
  intro x hx
  obtain ⟨y, _, rfl⟩ := List.mem_map.1 hx
  rfl
theorem B1.row {w W V : World} {x : Array Value} {tx : Nat} {r : Option Nat} (h : B1 w W x tx) (k : W.grownBy V r) (hr : ∀ g, r = some g → w.heap.size + 1 ≤ g) : B1 w V x tx := ⟨h.b.grown k h.size hr⟩
set_option maxRecDepth 20000 in
set_option maxHeartbeats 1600000 in
theorem rankEvery_any (l : List Tk) (o : List Int) (size : Int) (sl : List Sp) (a b c : Option Addr) (ca cb cc : Nat) (w : World) (hr : Tks w a l) (hr2 : Row w b o) (hs : Sps w c sl) (hnz : a = none → ca = 0) (hm : l.length ≤ maxLen) (hby : l.length * 24 ≤ 140737488355328) :
    Calls Try.prog 7 #[.slice a l.length ca, .slice b o.length cb, .agg #[.int .i64 size, .slice c sl.length cc]] w fun e w' => e = .returned (.bool true) ∧ Below w.heap.size w w' := by
  have HCL := hid (fun (W : World) (h : Below w.heap.size w W) => cloneTk_any a ca l W (hr.below h (Nat.le_refl _)) hnz hm hby)
  have HGO := hid (fun (p : Option Addr) (k : Nat) (W : World) (h : Below w.heap.size w W) (hp : Tks W p (l.map evT)) (hk : (l.map evT).length ≤ k) => Good_any (l.map evT) o size sl p b c k cb cc W hp (Row.below hr2 h (Nat.le_refl _)) (hs.below h (Nat.le_refl _)) hk)
  have HGQ := hid (fun (p : Option Addr) (k : Nat) (r : Option Addr) (j : Nat) (W : World) (h : Below w.heap.size w W) (hp : Tks W p (l.map evT)) (hk : (l.map evT).length ≤ k) (hq : Row W r (ordE (fun x => x.2.1) (l.map evT))) => Good_any (l.map evT) _ size sl p r c k j cc W hp hq (hs.below h (Nat.le_refl _)) hk)
  have HD := hid (fun (p : Option Addr) (k : Nat) (W : World) (hp : Tks W p (l.map evT)) => ByEvery_any (l.map evT) p k W hp)
  have hL := hid lives
  have HZ := hid (evTo_zero l)
  have HA := hid (evTo_all l)
  have HLN := hid (fun k => evTo_len l k)
  have HAT := hid (fun k (h : k < l.length) (h' : k < (evTo l k).length) => evTo_at l h h')
  have HSET := hid (fun k (h : k < l.length) => evTo_set l h)
  have HGOOD := hid (fun (h : gdB (l.map evT) o size sl = true) => every_ok (evT_due l) h)
  have HEZ := hid (fun (h : gdE (l.map evT) o size sl = 0) => (gdE_zero h).1)
  have HBE := hid (fun (h : gdB (l.map evT) o size sl = true) => (gdB_iff.1 h).1)
  have HML := hid (show (l.map evT).length = l.length by simp)
  clear hr hr2 hs hnz
  have hml : l.length ≤ 6000000000000 := by omega
  clear hm hby
  generalize gdE (l.map evT) (ordE (fun x => x.2.1) (l.map evT)) size sl = Eq at *
  generalize gdB (l.map evT) (ordE (fun x => x.2.1) (l.map evT)) size sl = Bq at *
  generalize ordE (fun x => x.2.1) (l.map evT) = q at *
  generalize tchk (l.map evT) = tc at *
  generalize gdE (l.map evT) o size sl = Eo at *
  generalize gdB (l.map evT) o size sl = Bo at *
  generalize l.map evT = L at *
  generalize evTo l = TB at *
  go_enter Try.func7, Try.ntmps7
  go_wp2_with fail
  refine (HCL.out _ (B1.start w _ _).bel).mono ?_
  rintro e w1 ⟨⟨v, rfl, ho⟩, b1⟩
  have HB1 := hid ((B1.start w #[.int .i64 size, .slice c sl.length cc] 26).step b1)
  obtain ⟨a1, c1, rfl, _, _, _, _⟩ := OwnTk.rows' ho
  have HO1 := hid (show OwnT w1 (w.heap.size + 1) (.slice a1 l.length c1) (TB 0) by
    rw [HZ.out]
    have := OwnTk.g ho
    rw [World.size_alloc] at this
    exact this)
  clear ho b1
  generalize hn : l.length = n at *
  have HN := hid hn
  clear hn
  go_wp2_with fail
  go_loopw [18] (fun v18 wr => ∃ (k : Nat), k ≤ n ∧ v18 = .int .i64 k ∧ OwnT wr (w.heap.size + 1) (.slice a1 n c1) (TB k) ∧ B1 w wr #[.int .i64 size, .slice c sl.length cc] 26) (fun v18 _ => n - (intOf v18).toNat)
  case atStart => exact ⟨0, by omega, rfl, HO1.out, HB1.out⟩
  case round =>
    obtain ⟨k, hk, rfl, ho, hb⟩ := hrel
    have HO := hid ho
    have HB := hid hb
    by_cases hlt : k < n
    · obtain ⟨g, cap, e', hg, _, _, _⟩ := ho.pos (by rw [HLN.out]; omega)
      simp only [Value.slice.injEq] at e'
      obtain ⟨rfl, _, rfl⟩ := e'
      have hkt : k < (TB k).length := by rw [HLN.out]; exact hlt
      have hke : ETk.k = 3 := rfl
      have y1 := ho.cell k 1 hkt (by decide)
      have y2 := ho.cell k 2 hkt (by decide)
      have z2 := ho.frozen (k * 3 + 2)
      have hat := HAT.out k hlt hkt
      have hset := HSET.out k hlt
      have henc : ∀ x : Tk, ETk.enc x = [.int .i64 x.1, .int .i64 x.2.1, .int .i64 x.2.2] := fun _ => rfl
      rw [hat, henc, hke] at y1 y2
      have HST := hid (ho.set1 k 2 hkt (.int .i64 (l.getD k zTk).2.1) (evT (l.getD k zTk)) (by rw [hat]; rfl) (by decide))
      rw [hke, hset] at HST
      generalize l.getD k zTk = x at *
      obtain ⟨t4, t5, t6⟩ := x
      simp at y1 y2
      simp only at HST
      have hki : (k : Int) < (n : Int) := by omega
      have HGB := hid hg
      clear ho hb hat hset henc hkt hke
      go_wp2_with fail
      obtain ⟨o4, g4⟩ := HST.out
      have HB4 := hid (HB.out.row g4 (fun j hj => by simp at hj; have := HGB.out; omega))
      clear y1 y2 z2 g4
      go_roundw
      case rel => exact ⟨k + 1, by omega, by go_num, o4, HB4.out⟩
      case measure => simp [intOf]; omega
    · obtain rfl : k = n := by omega
      rw [HA.out] at HO
      obtain ⟨a2, c2, e', hL2, hc2, _, _⟩ := OwnTk.rows' (OwnT.tk HO.out)
      have e2 := HML.out
      simp only [Value.slice.injEq] at e'
      obtain ⟨rfl, hkl, rfl⟩ := e'
      clear hkl
      have HT := hid hL2
      have HCC := hid hc2
      have HWG := hid (HGO.out a1 c1 wr HB.out.bel HT.out HCC.out)
      rw [HML.out] at HWG HCC
      have HWQ := hid (fun (r : Option Addr) (j : Nat) (W : World) (h : Below w.heap.size w W) (hp : Tks W a1 L) (hq : Row W r q) => HGQ.out a1 c1 r j W h hp (by rw [HML.out]; exact HCC.out) hq)
      have HWD := hid (fun (W : World) (hp : Tks W a1 L) => HD.out a1 c1 W hp)
      rw [HML.out] at HWQ HWD
      have c0' := HB.out.c0 0
      have c1' := HB.out.c0 1
      simp at c0' c1'
      clear ho hb hL2 hc2 e2 HCL HGO HGQ HD HO HSET HAT HLN
      have hcase : Bo = true ∨ (Bo = false ∧ Eo ≠ 0) ∨ (Bo = false ∧ Eo = 0 ∧ tc = 0) := by
        by_cases h1 : Bo = true
        · exact .inl h1
        · have h2 : Bo = false := by simpa using h1
          by_cases h3 : Eo = 0
          · exact .inr (.inr ⟨h2, h3, HEZ.out h3⟩)
          · exact .inr (.inl ⟨h2, h3⟩)
      rcases hcase with h1 | ⟨h1, h2⟩ | ⟨h1, h2, h3⟩
      · obtain ⟨g1, g2⟩ := HGOOD.out h1
        have e0 := HBE.out h1
        have t0 := HEZ.out e0
        subst g1 g2 h1 e0 t0
        clear HGOOD HEZ HBE
        go_wp2_with fail
        with_reducible refine HWG.out.mono ?_
        rintro e w2 ⟨rfl, b2⟩
        have HB2 := hid (HB.out.step b2)
        have HT2 := hid (HT.out.below b2 (Nat.le_refl _))
        clear b2 c0' c1'
        go_wp2_with fail
        refine (HWD.out _ HT2.out).mono ?_
        rintro e w3 ⟨⟨v, rfl, ho⟩, b3⟩
        have HB3 := hid (HB2.out.step b3)
        have HT3 := hid (HT2.out.below b3 (Nat.le_refl _))
        obtain ⟨aq, cq, rfl, hrq, _⟩ := OwnI.row ho
        have HQ3 := hid hrq
        clear b3 ho hrq
        go_wp2_with fail
        refine (hL.out _).mono ?_
        rintro e w4 ⟨rfl, b4⟩
        have HB4 := hid (HB3.out.step b4)
        have HT4 := hid (HT3.out.below b4 (Nat.le_refl _))
        have HQ4 := hid (Row.below HQ3.out b4 (Nat.le_refl _))
        have c0' := HB4.out.c0 0
        have c1' := HB4.out.c0 1
        simp at c0' c1'
        clear b4
        go_wp2_with fail
        refine (HWQ.out _ _ _ HB4.out.bel HT4.out HQ4.out).mono ?_
        rintro e w5 ⟨rfl, b5⟩
        have HB5 := hid (HB4.out.step b5)
        clear b5 c0' c1'
        go_wp2_with fail
        go_ret
        exact ⟨rfl, HB5.out.bel⟩
      all_goals
        first
          | (subst h1 h2 h3)
          | (have hne : (Eo != 0) = true := by simpa using h2
             subst h1
             clear h2)
        clear HGOOD HEZ HBE
        go_wp2_with fail
        with_reducible refine HWG.out.mono ?_
        rintro e w2 ⟨rfl, b2⟩
        have HB2 := hid (HB.out.step b2)
        have HT2 := hid (HT.out.below b2 (Nat.le_refl _))
        clear b2 c0' c1'
        go_wp2_with fail
        refine (HWD.out _ HT2.out).mono ?_
        rintro e w3 ⟨⟨v, rfl, ho⟩, b3⟩
        have HB3 := hid (HB2.out.step b3)
        obtain ⟨aq, cq, rfl, hrq, _⟩ := OwnI.row ho
        clear b3 ho hrq
        go_wp2_with fail
        refine (hL.out _).mono ?_
        rintro e w4 ⟨rfl, b4⟩
        have HB4 := hid (HB3.out.step b4)
        clear b4
        go_wp2_with fail
        refine (hL.out _).mono ?_
        rintro e w5 ⟨rfl, b5⟩
        have HB5 := hid (HB4.out.step b5)
        clear b5
        go_wp2_with fail
        go_ret
        exact ⟨rfl, HB5.out.bel⟩
theorem rankEvery_walk (a0 : Option Addr) (len0 cap0 : Nat) (l0 : List TaskM.Tk) (a1 : Option Addr) (len1 cap1 : Nat) (l1 : List Int) (s2 : Int) (a2 : Option Addr) (len2 cap2 : Nat) (l2 : List Sp) (w : World)
    (w0 : RowsO.IsTks w a0 len0 cap0 l0) (w1 : RowsO.IsIns w a1 len1 cap1 l1) (x2 : SpanC.wf64 s2) (w2 : SpanC.IsSps w a2 len2 cap2 l2) (b0 : len0 * 24 ≤ 140737488355328) (b1 : len1 * 8 ≤ 140737488355328) (b2 : len2 * 16 ≤ 140737488355328) :
    Calls Try.prog 7 #[.slice a0 len0 cap0, .slice a1 len1 cap1, .agg #[.int .i64 s2, .slice a2 len2 cap2]] w fun e w' => e = .returned (.bool true) ∧ Below w.heap.size w w' := by
  obtain ⟨rfl, hc, hm, hr, hz, _⟩ := w0
  obtain ⟨rfl, _, _, hf, _⟩ := w1
  obtain ⟨rfl, _, _, hs, _⟩ := w2
  exact rankEvery_any l0 l1 s2 l2 a0 a1 a2 cap0 cap1 cap2 w hr hf hs (fun h => (hz h).2) (by omega) b0
end RankC
end Go.Proofs.Ytnbfadfhpegddaa
