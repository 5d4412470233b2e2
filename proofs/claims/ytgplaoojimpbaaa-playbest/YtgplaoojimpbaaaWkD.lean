/- Contracts: play.work. -/
import Derived.Test.YtgplaoojimpbaaaWkB
import Derived.Test.YtgplaoojimpbaaaPlayM7
set_option linter.unusedVariables false
namespace Go.Proofs.Ytgplaoojimpbaaa
open Go.RowKit hiding tok
open Go.Shelf Go.Sort
open SpanM SpanC PlayM
namespace PlayC
open RowG
/-- how long a row is -/
def lz (v : Value) : Nat := match v with | .slice _ n _ => n | _ => 0
theorem below_two (w : World) (o o' : Obj) : Below w.heap.size w ((w.alloc o).alloc o') := ((Below.refl _ w).alloc (Nat.le_refl _) o).alloc (by rw [World.size_alloc]; omega) o'
/-- what holds at the loop's head -/
structure Inv (P : Pl) (S : List (Nat × Nat)) (w wr : World) (vs : Array Value) (u m : Nat) (vq vd : Value) (hq : List Jb) (aj : Option Addr) : Prop where
  k : Wk w wr vs vq vd hq (P.outs u)
  q : Qs P S u m hq
  h : Here P S u m
  r : Rd EJ w aj ((S.drop m).map (jy P))
/-- .. and within a time, while jobs come -/
structure Inn (P : Pl) (S : List (Nat × Nat)) (w wr : World) (vs : Array Value) (t m : Nat) (vq vd : Value) (hq : List Jb) (aj : Option Addr) : Prop where
  k : Wk w wr vs vq vd hq (P.outs t)
  q : Qs P S t m hq
  h : Here P S t m
  r : Rd EJ w aj ((S.drop m).map (jy P))
set_option maxRecDepth 20000 in
set_option maxHeartbeats 6400000 in
theorem work_any (P : Pl) (T : Int) (S : List (Nat × Nat)) (J : Js P T S) (h1 : 0 ≤ T) (h2 : T ≤ 20000) (hl : S.length ≤ 2000) (v : Value) (B0 : Nat) (a : Option Addr) (cap : Nat) (w : World) (hv : OwnJ w B0 v (S.map (jy P))) (hs : Sps w a P.sl) (hk : chk P.size P.sl = 0) :
    Calls Try.prog 38 #[v, .agg #[.int .i64 P.size, .slice a P.sl.length cap], .int .i64 T] w fun e w' => (∃ vd, e = .returned (.tuple #[vd, .int .i64 (P.idles T.toNat)]) ∧ OwnD w' w.heap.size vd (P.outs T.toNat)) ∧ Below w.heap.size w w' := by
  obtain ⟨i0, hi, hz0, hz1, hz2⟩ := info_parts infoD
  have Hi := hid hi
  have Hz0 := hid hz0
  have Hz1 := hid hz1
  have Hz2 := hid hz2
  clear hi hz0 hz1 hz2
  obtain ⟨a0, cap0, rfl, hrd, hnil⟩ := hv.rd
  have hcap : S.length ≤ cap0 := by
    rcases hv.form with ⟨e, e2⟩ | ⟨g, c, e, _, _, e3, _⟩
    · simp at e2; simp [e2]
    · simp at e; simp at e3; omega
  rw [List.length_map]
  have HJ := hid J
  have HS := hid hs
  have HK := hid hk
  have HR := hid hrd
  have HT := hid (show ((T.toNat : Nat) : Int) = T by omega)
  have HST := hid (Wk.start w #[.int .i64 P.size, .slice a P.sl.length cap])
  have HN0 := hid (next_nx P hk 0 (by omega) a cap _ (hs.below HST.out.bel (Nat.le_refl _)))
  have hz : ((0 : Nat) : Int) = 0 := rfl
  rw [hz] at HN0
  obtain ⟨n, hn⟩ : ∃ n, n = S.length := ⟨_, rfl⟩
  rw [← hn]
  rw [← hn] at hcap hl
  have HNS := hid hn
  clear J hs hk hrd hnil hv hn
  generalize hps : P.size = psz at HN0 HST ⊢
  generalize hpn : P.sl.length = pn at HN0 HST ⊢
  have HPS := hid hps
  have HPN := hid hpn
  clear hps hpn
  go_enter Try.func38, Try.ntmps38
  go_wp2_with (first | (go_at_call 55; refine HN0.out.mono ?_; rintro r w1 ⟨t0, e0, rfl, hx0, ht0, ht1, hb0⟩; have HW1 := hid (HST.out.below hb0); have HX0 := hid hx0; clear hb0 hx0))
  go_loopw [0, 8, 10, 11, 12] (fun vj v8 vi vt ve wr => ∃ (u m : Nat) (hq : List Jb) (vq vd : Value) (aj : Option Addr) (cj nj : Nat) (t e : Int), vj = .slice aj nj cj ∧ vd = v8 ∧ vi = .int .i64 (P.idles u) ∧ vt = .int .i64 t ∧ ve = .int .i64 e ∧ nj + m = n ∧ nj ≤ cj ∧ 0 ≤ t ∧ t ≤ 1100000 ∧ u ≤ 20000 ∧ (u : Int) ≤ T ∧ Hid (Nx P u t e) ∧ Hid (Inv P S w wr #[.int .i64 psz, .slice a pn cap] u m vq vd hq aj)) (fun _ _ _ vt ve _ => mz vt ve)
  case atStart => exact ⟨0, 0, [], _, _, a0, cap0, n, t0, e0, rfl, rfl, rfl, rfl, rfl, by omega, hcap, ht0, ht1, by omega, by omega, HX0, (⟨HW1.out, Qs.zero P S, Here.zero P S 0, HR.out⟩ : Inv _ _ _ _ _ _ _ _ _ _ _)⟩
  case round =>
    obtain ⟨u, m, hq, vq, vd, aj, cj, nj, t, e, rfl, rfl, rfl, rfl, rfl, hnm, hcj, ht0, ht1, hu1, hu2, HX, HI⟩ := hrel
    by_cases hgo : e = 0 ∧ t < T
    · obtain ⟨rfl, htT⟩ := hgo
      obtain ⟨k0, rfl, hk1, hon, hoff⟩ : ∃ k0 : Nat, t = k0 ∧ u ≤ k0 ∧ P.on k0 = true ∧ ∀ x, u ≤ x → x < k0 → P.on x = false := by
        rcases HX.out with ⟨_, k0, h⟩ | ⟨h, _⟩
        · exact ⟨k0, h⟩
        · exact absurd h (by decide)
      obtain ⟨sk1, sk2, sk3⟩ := skip HJ.out.ok hk1 hoff
      have HON := hid hon
      have SK1 := hid sk1
      have SK2 := hid sk2
      have SK3 := hid sk3
      have HIN := hid (show Inn P S w wr #[.int .i64 psz, .slice a pn cap] k0 m vq vd hq aj from ⟨by rw [sk2]; exact HI.out.k, HI.out.q.skip sk1, HI.out.h.later hk1, HI.out.r⟩)
      have HK1 := hid hk1
      have hk20 : k0 ≤ 20000 := by omega
      have HNX := hid (fun (W : World) (hW : Sps W a P.sl) => next_nx P HK.out (k0 + 1) (by omega) a cap W hW)
      rw [show (((k0 + 1 : Nat) : Int)) = (k0 : Int) + 1 by omega, HPS.out, HPN.out] at HNX
      obtain ⟨hid0, hid1⟩ := idles_bd P HJ.out.ok u
      have hid2 : P.idles u ≤ 20000 := by omega
      generalize hidl : P.idles u = idl at *
      have HIDL := hid hidl
      clear sk1 sk2 sk3 hon hoff hk1 hidl HX HI
      clear HX0 HW1 HN0 HST
      go_wp2_with fail
      obtain ⟨w0, hw0⟩ : ∃ x, x = wr := ⟨_, rfl⟩
      subst hw0
      go_loopw [0] (fun vj wr => ∃ (m : Nat) (hq : List Jb) (vq : Value) (aj : Option Addr) (cj nj : Nat), vj = .slice aj nj cj ∧ nj + m = n ∧ nj ≤ cj ∧ Hid (Inn P S w wr #[.int .i64 psz, .slice a pn cap] k0 m vq vd hq aj)) (fun vj _ => lz vj)
      case atStart => exact ⟨m, hq, vq, aj, cj, nj, rfl, hnm, hcj, HIN⟩
      case round =>
        clear HIN hnm hcj
        obtain ⟨m, hq, vq, aj, cj, nj, rfl, hnm, hcj, HIN⟩ := hrel
        have hql := HIN.out.q.len
        by_cases hnj : nj = 0
        · subst hnj
          have HCM := hid (Come.of HJ.out (t := k0) (m := m) (.inl (by have := HNS.out; omega)))
          have hb0 := box_cell HIN.out.k.box 0
          have hs0 := box_cell HIN.out.k.set 0
          have hs1 := box_cell HIN.out.k.set 1
          simp at hb0 hs0 hs1
          by_cases hq0 : hq.length = 0
          · have hqe : hq = [] := List.length_eq_zero_iff.1 hq0
            have HZ := hid (Qs.none HJ.out (by rw [← hqe]; exact HIN.out.q) HCM.out htT HON.out)
            have WK := hid HIN.out.k
            obtain ⟨aq, cq, hvq⟩ := HIN.out.k.q.slice
            rw [hq0] at hvq
            subst hvq
            clear hqe hq0 hql
            go_wp2_with (first | (go_at_call 55; refine (HNX.out _ (HS.out.below WK.out.bel (Nat.le_refl _))).mono ?_; rintro r w9 ⟨t9, e9, rfl, hx9, ht9, ht99, hb9⟩; have HX9 := hid hx9; have WK9 := hid (WK.out.below hb9); clear hb9 hx9))
            go_roundw
            case rel =>
              refine ⟨k0 + 1, m, hq, .slice aq 0 cq, vd, _, cj, 0, t9, e9, rfl, rfl, by rw [HZ.out.2.2, SK3.out], rfl, rfl, by omega, by omega, ht9, ht99, by omega, by omega, HX9, (⟨?_, ?_, ?_, ?_⟩ : Inv _ _ _ _ _ _ _ _ _ _ _)⟩
              · rw [HZ.out.2.1]; exact WK9.out
              · exact HIN.out.q.skip HZ.out.1
              · exact HIN.out.h.later (by omega)
              · exact HIN.out.r
            case measure => exact mz_less (by omega) (by omega) (by omega) HX9.out
          · obtain ⟨g, cq, hvq, hgB, hgs, hlc, hcm2⟩ := HIN.out.k.q.pos (by omega)
            obtain ⟨i, k, hg0, hfq, hbest⟩ := HIN.out.q.best HJ.out HCM.out HIN.out.h htT (by omega)
            have hwk := HIN.out.q.work HJ.out (by omega) hg0 hfq hbest HON.out
            subst hvq
            have hq00 : 0 < hq.length := by omega
            have hgt : gt hq 0 = hq[0] := by unfold gt; rw [getD_at hq 0 hq00]
            have c5 := HIN.out.k.q.cell 0 5 hq00 (by decide)
            have fz := HIN.out.k.q.frozen 5
            have e7 : EJ.k = 7 := rfl
            have hf5 : hq[0].f = P.Lf k0 i k := by rw [← hgt, hg0]; rfl
            have hfp := (Fq_mem hfq).2
            have hfb := Pl.Lf_le HJ.out.ok k0 i k
            have htk := (HJ.out.ok.at hbest.1.1)
            have hfm : P.Lf k0 i k ≤ 10000 := by
              unfold TaskM.tok at htk
              omega
            simp [EJ] at c5
            rw [hf5] at c5
            have hgt5 : hq[0] = jw P k0 (i, k) := by rw [← hgt, hg0]
            simp only at hfp
            have hdx : ∀ z : Int, hq.set 0 { hq[0] with f := z } = hq.set 0 { gt hq 0 with f := z } := fun z => by rw [hgt]
            have hS := fun z => HIN.out.k.q.set1 0 5 hq00 (.int .i64 z) { hq[0] with f := z } rfl (by decide)
            have hS2 := fun z => HIN.out.k.row (hS z).2 (hS z).1
            simp only [Nat.zero_mul, Nat.zero_add] at hS2
            clear hgt htk hfb hS hgB
            by_cases hf1 : P.Lf k0 i k = 1
            · have hdec : hq.set 0 { hq[0] with f := 0 } = dec hq := by unfold dec; rw [hdx, hg0]; simp only [jw]; rw [hf1]; rfl
              have WK2 := hS2 0
              rw [hdec] at WK2
              have hgd : gt (dec hq) 0 = ⟨i, k, P.cm i k, 0, P.du i k, 0, P.ky i k⟩ := by
                unfold dec gt
                rw [getD_at _ 0 (by simpa using hq00)]
                simp only [List.getElem_set_self]
                have := hg0
                unfold gt at this
                rw [this]
                unfold jw
                simp only [hf1]
                rfl
              have hdl : (dec hq).length = hq.length := by simp [dec]
              have hPop := hid (hpop_any (w.heap.size + 1) (w.heap.size + 2) g hq.length cq (dec hq) _ WK2.box WK2.q hdl.symm hq00 (dec_heap HIN.out.q.heap) (by rw [hdl]; have := HNS.out; omega))
              have y0 := box_cell WK2.box 0
              have y5 := WK2.q.cell 0 5 (by rw [hdl]; exact hq00) (by decide)
              have hd0 : (dec hq)[0]'(by rw [hdl]; exact hq00) = ⟨i, k, P.cm i k, 0, P.du i k, 0, P.ky i k⟩ := by
                rw [← hgd]; unfold gt; rw [getD_at _ 0 (by rw [hdl]; exact hq00)]
              rw [hd0] at y5
              simp [EJ] at y0 y5
              rw [hgd] at hPop
              simp only [vJ] at hPop
              rw [hf1] at c5
              have HW := hid hwk
              have HF1 := hid hf1
              have HGD := hid hgd
              have hta := assertJ
              have HQL := hid (show (dec hq).length = hq.length from hdl)
              have HWK2 := hid WK2
              generalize hcmv : P.cm i k = cmv at *
              generalize hduv : P.du i k = duv at *
              generalize hkyv : P.ky i k = kyv at *
              clear hql hwk hf1 hgd hdl hd0 WK2 hdec hS2 hdx hgt5 hf5 hfp hfm hg0 hfq hbest hduv hkyv
              have HCMV := hid hcmv
              clear hcmv
              generalize hql0 : hq.length = ql at *
              have hqz : (ql : Int) ≠ 0 := by omega
              have hqz2 : ((ql : Int) == 0) = false := by simp; omega
              have hq1 : (0 : Int) < (ql : Int) := by omega
              have HOB := hid (Nat.le_trans (outs_bd P HJ.out.ok k0) hk20)
              go_wp2_with (first | (go_at_call 57; refine hPop.out.mono ?_; rintro r w3 ⟨rfl, l3, hb3, ho3, hp3, hh3, hc3⟩; have HWK3 := hid (HWK2.out.heap hc3 hb3 ho3); have HP3 := hid hp3; have HH3 := hid hh3; clear hb3 ho3 hp3 hh3 hc3) | (at_builtin; refine wpList_append_own _ rfl _ _ 27 rfl (w.heap.size + 2) 40 i0 (.agg #[.int .i64 0, .int .i64 0, .int .i64 0, .int .i64 0]) 4 32 Try.underlying27 Hi.out Hz0.out Hz1.out Hz2.out rfl (by decide) _ (P.outs k0).length (ED.flat (P.outs k0)) rfl ?qc0 ⟨w3.heap.size + 1, 0, none⟩ 1 1 (ED.enc ((i : Int), (k : Int), cmv, (k0 : Int) + 1)) ?qcx ?qc1 ?qc2 ?qc3 ?qc4 ?qc5 ?qc6 ?_))
              case qc0 => exact World.ownsRow.alloc (World.ownsRow.alloc HWK3.out.d _) _
              case qcx => rfl
              case qc1 => rfl
              case qc2 =>
                intro j z hj
                match j, hj with
                | 0, hj => simp [ED] at hj; subst hj; exact World.cell?_alloc_at _ _ _ _ (by simp)
                | 1, hj => simp [ED] at hj; subst hj; exact World.cell?_alloc_at _ _ _ _ (by simp)
                | 2, hj => simp [ED] at hj; subst hj; exact World.cell?_alloc_at _ _ _ _ (by simp)
                | 3, hj => simp [ED] at hj; subst hj; exact World.cell?_alloc_at _ _ _ _ (by simp)
                | j + 4, hj => simp [ED] at hj
              case qc3 => exact ED.h1 _
              case qc4 => have := HOB.out; unfold maxLen; omega
              case qc5 => have := HOB.out; omega
              case qc6 => have := HWK3.out.sz; simp; omega
              intro v5 w5 hown hgrow hnil
              have ho5 : OwnD w5 (w.heap.size + 2) v5 (P.outs k0 ++ [((i : Int), (k : Int), cmv, (k0 : Int) + 1)]) := own_snoc hown rfl rfl
              have WK := hid ((HWK3.out.below (below_two w3 _ _)).done hgrow ho5)
              have z0 := box_cell WK.out.set 0
              have z1 := box_cell WK.out.set 1
              simp at z0 z1
              clear hown hgrow hnil ho5 hb0 hs0 hs1 y0 y5 c5 fz
              go_wp2_with (first | (go_at_call 55; refine (HNX.out _ (HS.out.below WK.out.bel (Nat.le_refl _))).mono ?_; rintro r w9 ⟨t9, e9, rfl, hx9, ht9, ht99, hb9⟩; have HX9 := hid hx9; have WK9 := hid (WK.out.below hb9); clear hb9 hx9))
              go_roundw
              case rel =>
                obtain ⟨f1, f2, f3, f4, f5⟩ := HW.out
                have e1 := HP3.out.length_eq
                have e2 := HQL.out
                simp at e1
                refine ⟨k0 + 1, m, l3, vS g (ql - 1) cq, v5, _, cj, 0, t9, e9, rfl, rfl, by rw [f3, SK3.out], rfl, rfl, by omega, by omega, ht9, ht99, by omega, by omega, HX9, (⟨?_, ?_, ?_, ?_⟩ : Inv _ _ _ _ _ _ _ _ _ _ _)⟩
                · rw [f2, if_pos HF1.out]; exact WK9.out
                · exact f5 HF1.out l3 (by rw [HGD.out]; exact HP3.out) (by rw [show l3.length = ql - 1 by omega]; exact HH3.out)
                · exact HIN.out.h.later (by omega)
                · exact HIN.out.r
              case measure => exact mz_less (by omega) (by omega) (by omega) HX9.out
            · have hdec : hq.set 0 { hq[0] with f := P.Lf k0 i k - 1 } = dec hq := by unfold dec; rw [hdx, hg0]; rfl
              have WK2 := hS2 (P.Lf k0 i k - 1)
              rw [hdec] at WK2
              have hdl : (dec hq).length = hq.length := by simp [dec]
              have y0 := box_cell WK2.box 0
              have y5 := WK2.q.cell 0 5 (by rw [hdl]; exact hq00) (by decide)
              have hd0 : ((dec hq)[0]'(by rw [hdl]; exact hq00)).f = P.Lf k0 i k - 1 := by
                unfold dec
                simp only [List.getElem_set_self, hg0]
                rfl
              simp [EJ] at y0 y5
              rw [hd0] at y5
              have WK := hid WK2
              have z0 := box_cell WK2.set 0
              have z1 := box_cell WK2.set 1
              simp at z0 z1
              have HW := hid hwk
              have HF1 := hid hf1
              generalize hflv : P.Lf k0 i k = flv at *
              have hfz : (flv - 1 == 0) = false := by simp; omega
              clear hql hwk hdl hd0 WK2 hdec hS2 hdx hgt5 hf5 hg0 hfq hbest hflv
              generalize hql0 : hq.length = ql at *
              have hqz : (ql : Int) ≠ 0 := by omega
              have hqz2 : ((ql : Int) == 0) = false := by simp; omega
              have hq1 : (0 : Int) < (ql : Int) := by omega
              go_wp2_with (first | (go_at_call 55; refine (HNX.out _ (HS.out.below WK.out.bel (Nat.le_refl _))).mono ?_; rintro r w9 ⟨t9, e9, rfl, hx9, ht9, ht99, hb9⟩; have HX9 := hid hx9; have WK9 := hid (WK.out.below hb9); clear hb9 hx9))
              go_roundw
              case rel =>
                obtain ⟨f1, f2, f3, f4, f5⟩ := HW.out
                refine ⟨k0 + 1, m, dec hq, vS g ql cq, vd, _, cj, 0, t9, e9, rfl, rfl, by rw [f3, SK3.out], rfl, rfl, by omega, by omega, ht9, ht99, by omega, by omega, HX9, (⟨?_, ?_, ?_, ?_⟩ : Inv _ _ _ _ _ _ _ _ _ _ _)⟩
                · rw [f2, if_neg HF1.out, List.append_nil]; exact WK9.out
                · exact f4 HF1.out
                · exact HIN.out.h.later (by omega)
                · exact HIN.out.r
              case measure => exact mz_less (by omega) (by omega) (by omega) HX9.out
        · obtain ⟨nk, rfl⟩ : ∃ nk, nj = nk + 1 := ⟨nj - 1, by omega⟩
          have hmS : m < S.length := by have := HNS.out; omega
          have hdr : S.drop m = S[m] :: S.drop (m + 1) := List.drop_eq_getElem_cons hmS
          have hr := HIN.out.r
          rw [hdr, List.map_cons] at hr
          obtain ⟨p, off, haj, hcl⟩ := (hr.below HIN.out.k.bel (Nat.le_refl _)).at 0 (by simp)
          subst haj
          have hr2 := hid (rd_tail hr)
          have hcm : (jy P S[m]).c = P.cm S[m].1 S[m].2 := rfl
          have HPU := hid (fun (h' : List Jb) hp hh => HIN.out.q.push (h' := h') HJ.out hmS hp hh)
          have HCOM := hid (fun h : (k0 : Int) < P.cm S[m].1 S[m].2 => Come.of HJ.out (t := k0) (m := m) (.inr ⟨hmS, h⟩))
          have HHR := hid (fun h : P.cm S[m].1 S[m].2 ≤ k0 => HIN.out.h.next hmS h)
          rw [← hcm] at HCOM HHR
          clear hcm hr hdr
          simp only [List.getElem_cons_zero] at hcl
          generalize jy P S[m] = x at *
          have hP := hid (hpush_any (w.heap.size + 1) (w.heap.size + 2) vq x hq wr HIN.out.k.box HIN.out.k.q HIN.out.q.heap (by have := HNS.out; omega) HIN.out.k.sz)
          obtain ⟨x0, x1, x2, x3, x4, x5, x6⟩ := x
          have a0 := hcl 0 (by decide); have a1 := hcl 1 (by decide); have a2 := hcl 2 (by decide); have a3 := hcl 3 (by decide); have a4 := hcl 4 (by decide); have a5 := hcl 5 (by decide); have a6 := hcl 6 (by decide)
          simp [EJ] at a0 a1 a2 a3 a4 a5 a6
          simp only [vJ] at hP
          simp only at HCOM HHR
          clear hcl
          have hnk : nk ≤ 2000 := by omega
          have hcj1 : 1 ≤ cj := by omega
          by_cases hct : x2 ≤ (k0 : Int)
          · go_wp2_with (first | (go_at_call 56; refine hP.out.mono ?_; rintro e w1 ⟨rfl, g1, c1, l1, hb1, ho1, hp1, hh1, hc1, hg1⟩; have HW2 := hid (HIN.out.k.heap hc1 hb1 ho1); have HP2 := hid hp1; have HH2 := hid hh1; clear hb1 ho1 hp1 hh1 hc1 hg1))
            go_roundw
            case rel =>
              have e1 := HP2.out.length_eq
              simp at e1
              refine ⟨m + 1, l1, _, _, _, nk, rfl, by omega, by omega, (⟨HW2.out, HPU.out l1 HP2.out (by rw [e1]; exact HH2.out), HHR.out hct, ?_⟩ : Inn _ _ _ _ _ _ _ _ _ _ _)⟩
              by_cases hc1 : cj = 1
              · refine .inl ?_
                rw [List.drop_of_length_le (by have := HNS.out; omega)]; rfl
              · rw [if_neg hc1]; exact hr2.out
            case measure => simp [lz]
          · have HCM := hid (HCOM.out (by omega))
            clear hP HPU
            have hb0 := box_cell HIN.out.k.box 0
            have hs0 := box_cell HIN.out.k.set 0
            have hs1 := box_cell HIN.out.k.set 1
            simp at hb0 hs0 hs1
            by_cases hq0 : hq.length = 0
            · have hqe : hq = [] := List.length_eq_zero_iff.1 hq0
              have HZ := hid (Qs.none HJ.out (by rw [← hqe]; exact HIN.out.q) HCM.out htT HON.out)
              have WK := hid HIN.out.k
              obtain ⟨aq, cq, hvq⟩ := HIN.out.k.q.slice
              rw [hq0] at hvq
              subst hvq
              clear hqe hq0 hql
              go_wp2_with (first | (go_at_call 55; refine (HNX.out _ (HS.out.below WK.out.bel (Nat.le_refl _))).mono ?_; rintro r w9 ⟨t9, e9, rfl, hx9, ht9, ht99, hb9⟩; have HX9 := hid hx9; have WK9 := hid (WK.out.below hb9); clear hb9 hx9))
              go_roundw
              case rel =>
                refine ⟨k0 + 1, m, hq, .slice aq 0 cq, vd, _, cj, (nk + 1), t9, e9, rfl, rfl, by rw [HZ.out.2.2, SK3.out], rfl, rfl, by omega, by omega, ht9, ht99, by omega, by omega, HX9, (⟨?_, ?_, ?_, ?_⟩ : Inv _ _ _ _ _ _ _ _ _ _ _)⟩
                · rw [HZ.out.2.1]; exact WK9.out
                · exact HIN.out.q.skip HZ.out.1
                · exact HIN.out.h.later (by omega)
                · exact HIN.out.r
              case measure => exact mz_less (by omega) (by omega) (by omega) HX9.out
            · obtain ⟨g, cq, hvq, hgB, hgs, hlc, hcm2⟩ := HIN.out.k.q.pos (by omega)
              obtain ⟨i, k, hg0, hfq, hbest⟩ := HIN.out.q.best HJ.out HCM.out HIN.out.h htT (by omega)
              have hwk := HIN.out.q.work HJ.out (by omega) hg0 hfq hbest HON.out
              subst hvq
              have hq00 : 0 < hq.length := by omega
              have hgt : gt hq 0 = hq[0] := by unfold gt; rw [getD_at hq 0 hq00]
              have c5 := HIN.out.k.q.cell 0 5 hq00 (by decide)
              have fz := HIN.out.k.q.frozen 5
              have e7 : EJ.k = 7 := rfl
              have hf5 : hq[0].f = P.Lf k0 i k := by rw [← hgt, hg0]; rfl
              have hfp := (Fq_mem hfq).2
              have hfb := Pl.Lf_le HJ.out.ok k0 i k
              have htk := (HJ.out.ok.at hbest.1.1)
              have hfm : P.Lf k0 i k ≤ 10000 := by
                unfold TaskM.tok at htk
                omega
              simp [EJ] at c5
              rw [hf5] at c5
              have hgt5 : hq[0] = jw P k0 (i, k) := by rw [← hgt, hg0]
              simp only at hfp
              have hdx : ∀ z : Int, hq.set 0 { hq[0] with f := z } = hq.set 0 { gt hq 0 with f := z } := fun z => by rw [hgt]
              have hS := fun z => HIN.out.k.q.set1 0 5 hq00 (.int .i64 z) { hq[0] with f := z } rfl (by decide)
              have hS2 := fun z => HIN.out.k.row (hS z).2 (hS z).1
              simp only [Nat.zero_mul, Nat.zero_add] at hS2
              clear hgt htk hfb hS hgB
              by_cases hf1 : P.Lf k0 i k = 1
              · have hdec : hq.set 0 { hq[0] with f := 0 } = dec hq := by unfold dec; rw [hdx, hg0]; simp only [jw]; rw [hf1]; rfl
                have WK2 := hS2 0
                rw [hdec] at WK2
                have hgd : gt (dec hq) 0 = ⟨i, k, P.cm i k, 0, P.du i k, 0, P.ky i k⟩ := by
                  unfold dec gt
                  rw [getD_at _ 0 (by simpa using hq00)]
                  simp only [List.getElem_set_self]
                  have := hg0
                  unfold gt at this
                  rw [this]
                  unfold jw
                  simp only [hf1]
                  rfl
                have hdl : (dec hq).length = hq.length := by simp [dec]
                have hPop := hid (hpop_any (w.heap.size + 1) (w.heap.size + 2) g hq.length cq (dec hq) _ WK2.box WK2.q hdl.symm hq00 (dec_heap HIN.out.q.heap) (by rw [hdl]; have := HNS.out; omega))
                have y0 := box_cell WK2.box 0
                have y5 := WK2.q.cell 0 5 (by rw [hdl]; exact hq00) (by decide)
                have hd0 : (dec hq)[0]'(by rw [hdl]; exact hq00) = ⟨i, k, P.cm i k, 0, P.du i k, 0, P.ky i k⟩ := by
                  rw [← hgd]; unfold gt; rw [getD_at _ 0 (by rw [hdl]; exact hq00)]
                rw [hd0] at y5
                simp [EJ] at y0 y5
                rw [hgd] at hPop
                simp only [vJ] at hPop
                rw [hf1] at c5
                have HW := hid hwk
                have HF1 := hid hf1
                have HGD := hid hgd
                have hta := assertJ
                have HQL := hid (show (dec hq).length = hq.length from hdl)
                have HWK2 := hid WK2
                generalize hcmv : P.cm i k = cmv at *
                generalize hduv : P.du i k = duv at *
                generalize hkyv : P.ky i k = kyv at *
                clear hql hwk hf1 hgd hdl hd0 WK2 hdec hS2 hdx hgt5 hf5 hfp hfm hg0 hfq hbest hduv hkyv
                have HCMV := hid hcmv
                clear hcmv
                generalize hql0 : hq.length = ql at *
                have hqz : (ql : Int) ≠ 0 := by omega
                have hqz2 : ((ql : Int) == 0) = false := by simp; omega
                have hq1 : (0 : Int) < (ql : Int) := by omega
                have HOB := hid (Nat.le_trans (outs_bd P HJ.out.ok k0) hk20)
                go_wp2_with (first | (go_at_call 57; refine hPop.out.mono ?_; rintro r w3 ⟨rfl, l3, hb3, ho3, hp3, hh3, hc3⟩; have HWK3 := hid (HWK2.out.heap hc3 hb3 ho3); have HP3 := hid hp3; have HH3 := hid hh3; clear hb3 ho3 hp3 hh3 hc3) | (at_builtin; refine wpList_append_own _ rfl _ _ 27 rfl (w.heap.size + 2) 40 i0 (.agg #[.int .i64 0, .int .i64 0, .int .i64 0, .int .i64 0]) 4 32 Try.underlying27 Hi.out Hz0.out Hz1.out Hz2.out rfl (by decide) _ (P.outs k0).length (ED.flat (P.outs k0)) rfl ?qc0 ⟨w3.heap.size + 1, 0, none⟩ 1 1 (ED.enc ((i : Int), (k : Int), cmv, (k0 : Int) + 1)) ?qcx ?qc1 ?qc2 ?qc3 ?qc4 ?qc5 ?qc6 ?_))
                case qc0 => exact World.ownsRow.alloc (World.ownsRow.alloc HWK3.out.d _) _
                case qcx => rfl
                case qc1 => rfl
                case qc2 =>
                  intro j z hj
                  match j, hj with
                  | 0, hj => simp [ED] at hj; subst hj; exact World.cell?_alloc_at _ _ _ _ (by simp)
                  | 1, hj => simp [ED] at hj; subst hj; exact World.cell?_alloc_at _ _ _ _ (by simp)
                  | 2, hj => simp [ED] at hj; subst hj; exact World.cell?_alloc_at _ _ _ _ (by simp)
                  | 3, hj => simp [ED] at hj; subst hj; exact World.cell?_alloc_at _ _ _ _ (by simp)
                  | j + 4, hj => simp [ED] at hj
                case qc3 => exact ED.h1 _
                case qc4 => have := HOB.out; unfold maxLen; omega
                case qc5 => have := HOB.out; omega
                case qc6 => have := HWK3.out.sz; simp; omega
                intro v5 w5 hown hgrow hnil
                have ho5 : OwnD w5 (w.heap.size + 2) v5 (P.outs k0 ++ [((i : Int), (k : Int), cmv, (k0 : Int) + 1)]) := own_snoc hown rfl rfl
                have WK := hid ((HWK3.out.below (below_two w3 _ _)).done hgrow ho5)
                have z0 := box_cell WK.out.set 0
                have z1 := box_cell WK.out.set 1
                simp at z0 z1
                clear hown hgrow hnil ho5 hb0 hs0 hs1 y0 y5 c5 fz
                go_wp2_with (first | (go_at_call 55; refine (HNX.out _ (HS.out.below WK.out.bel (Nat.le_refl _))).mono ?_; rintro r w9 ⟨t9, e9, rfl, hx9, ht9, ht99, hb9⟩; have HX9 := hid hx9; have WK9 := hid (WK.out.below hb9); clear hb9 hx9))
                go_roundw
                case rel =>
                  obtain ⟨f1, f2, f3, f4, f5⟩ := HW.out
                  have e1 := HP3.out.length_eq
                  have e2 := HQL.out
                  simp at e1
                  refine ⟨k0 + 1, m, l3, vS g (ql - 1) cq, v5, _, cj, (nk + 1), t9, e9, rfl, rfl, by rw [f3, SK3.out], rfl, rfl, by omega, by omega, ht9, ht99, by omega, by omega, HX9, (⟨?_, ?_, ?_, ?_⟩ : Inv _ _ _ _ _ _ _ _ _ _ _)⟩
                  · rw [f2, if_pos HF1.out]; exact WK9.out
                  · exact f5 HF1.out l3 (by rw [HGD.out]; exact HP3.out) (by rw [show l3.length = ql - 1 by omega]; exact HH3.out)
                  · exact HIN.out.h.later (by omega)
                  · exact HIN.out.r
                case measure => exact mz_less (by omega) (by omega) (by omega) HX9.out
              · have hdec : hq.set 0 { hq[0] with f := P.Lf k0 i k - 1 } = dec hq := by unfold dec; rw [hdx, hg0]; rfl
                have WK2 := hS2 (P.Lf k0 i k - 1)
                rw [hdec] at WK2
                have hdl : (dec hq).length = hq.length := by simp [dec]
                have y0 := box_cell WK2.box 0
                have y5 := WK2.q.cell 0 5 (by rw [hdl]; exact hq00) (by decide)
                have hd0 : ((dec hq)[0]'(by rw [hdl]; exact hq00)).f = P.Lf k0 i k - 1 := by
                  unfold dec
                  simp only [List.getElem_set_self, hg0]
                  rfl
                simp [EJ] at y0 y5
                rw [hd0] at y5
                have WK := hid WK2
                have z0 := box_cell WK2.set 0
                have z1 := box_cell WK2.set 1
                simp at z0 z1
                have HW := hid hwk
                have HF1 := hid hf1
                generalize hflv : P.Lf k0 i k = flv at *
                have hfz : (flv - 1 == 0) = false := by simp; omega
                clear hql hwk hdl hd0 WK2 hdec hS2 hdx hgt5 hf5 hg0 hfq hbest hflv
                generalize hql0 : hq.length = ql at *
                have hqz : (ql : Int) ≠ 0 := by omega
                have hqz2 : ((ql : Int) == 0) = false := by simp; omega
                have hq1 : (0 : Int) < (ql : Int) := by omega
                go_wp2_with (first | (go_at_call 55; refine (HNX.out _ (HS.out.below WK.out.bel (Nat.le_refl _))).mono ?_; rintro r w9 ⟨t9, e9, rfl, hx9, ht9, ht99, hb9⟩; have HX9 := hid hx9; have WK9 := hid (WK.out.below hb9); clear hb9 hx9))
                go_roundw
                case rel =>
                  obtain ⟨f1, f2, f3, f4, f5⟩ := HW.out
                  refine ⟨k0 + 1, m, dec hq, vS g ql cq, vd, _, cj, (nk + 1), t9, e9, rfl, rfl, by rw [f3, SK3.out], rfl, rfl, by omega, by omega, ht9, ht99, by omega, by omega, HX9, (⟨?_, ?_, ?_, ?_⟩ : Inv _ _ _ _ _ _ _ _ _ _ _)⟩
                  · rw [f2, if_neg HF1.out, List.append_nil]; exact WK9.out
                  · exact f4 HF1.out
                  · exact HIN.out.h.later (by omega)
                  · exact HIN.out.r
                case measure => exact mz_less (by omega) (by omega) (by omega) HX9.out
    · have hfin : P.outs T.toNat = P.outs u ∧ P.idles T.toNat = P.idles u := by
        have hh := HT.out
        have := skip (P := P) HJ.out.ok (u := u) (t := T.toNat) (by omega) (fun x x1 x2 => by
          rcases HX.out with ⟨e0, k0, rfl, h1, h2, h3⟩ | ⟨_, _, h3⟩
          · exact h3 x x1 (by
              by_cases hlt : x < k0
              · exact hlt
              · exact absurd (show e = 0 ∧ (k0 : Int) < T from ⟨e0, by omega⟩) hgo)
          · exact h3 x x1)
        exact ⟨this.2.1, this.2.2⟩
      have HF := hid hfin
      have WK := hid HI.out.k
      obtain ⟨hid0, hid1⟩ := idles_bd P HJ.out.ok u
      have hcase : e ≠ 0 ∨ (e = 0 ∧ T ≤ t) := by omega
      clear hfin hgo
      rcases hcase with hc | ⟨rfl, hc⟩
      · have hc2 : (e == 0) = false := by simpa using hc
        go_wp2_with fail
        go_ret2
        exact ⟨⟨vd, by rw [HF.out.2]; rfl, by rw [HF.out.1]; exact WK.out.d.base (by omega)⟩, WK.out.bel⟩
      · have hc2 : ¬ t < T := by omega
        go_wp2_with fail
        go_ret2
        exact ⟨⟨vd, by rw [HF.out.2]; rfl, by rw [HF.out.1]; exact WK.out.d.base (by omega)⟩, WK.out.bel⟩
end PlayC
end Go.Proofs.Ytgplaoojimpbaaa
