/- Several texts, one behind the other: PjW. -/
import Derived.Test.YtpnahhpkaegeeaaKRfA
import Derived.Test.YtpnahhpkaegeeaaKPjM
import Derived.Test.YtpnahhpkaegeeaaKPlyC
import Derived.Test.YtpnahhpkaegeeaaKSpanR
import Derived.Deep.CutRange
/- Contract of the document's own answer about plays: PlayedJobs. -/
set_option linter.unusedVariables false
namespace Go.Proofs.Ytpnahhpkaegeeaa
open Go.RowKit hiding tok
open SpanM SpanC TaskM PlayM
open RowsO hiding Tk
namespace PlayC
open NumC (Row)
open RowG
theorem map_jd (P : Pl) (T : Int) {q : Nat} (h : q < (P.jobsL T).length) : ((P.jobsL T).map (jd P))[q]'(by simpa using h) = jd P (P.jq T q) := by
  rw [List.getElem_map, Pl.jq_at P T h]
theorem rd_job (P : Pl) (T : Int) {w : World} {a : Option Addr} (h : Rd ED w a ((P.jobsL T).map (jd P))) {q : Nat} (hq : q < (P.jobsL T).length) :
    ∃ b off, a = some ⟨b, off, none⟩ ∧ w.cell? ⟨b, off + q * 4, none⟩ = some (.int .i64 (P.jq T q).1) ∧ w.cell? ⟨b, off + q * 4 + 1, none⟩ = some (.int .i64 (P.jq T q).2) ∧ w.cell? ⟨b, off + q * 4 + 2, none⟩ = some (.int .i64 (P.cm (P.jq T q).1 (P.jq T q).2)) ∧ w.cell? ⟨b, off + q * 4 + 3, none⟩ = some (.int .i64 0) := by
  obtain ⟨b, off, e, hc⟩ := h.at q (by simpa using hq)
  rw [map_jd P T hq] at hc
  exact ⟨b, off, e, hc 0 (by decide), hc 1 (by decide), hc 2 (by decide), hc 3 (by decide)⟩
theorem pq_of {P : Pl} {T : Int} {t q : Nat} (h1 : (P.jq T q).1 < P.l.length) (h2 : P.cm (P.jq T q).1 (P.jq T q).2 ≤ (t : Int)) (h3 : 0 < P.Lf t (P.jq T q).1 (P.jq T q).2) : P.Pq T t q := ⟨h1, h2, h3⟩
theorem fst_row {w : World} {B g n cap : Nat} {l : List Int} (h : OwnI w B (.slice (some ⟨g, 0, none⟩) n cap) l) (hn : n = l.length) (k : Nat) (v : Int) :
    OwnI (w.setCell ⟨g, k, none⟩ (.int .i64 v)) B (.slice (some ⟨g, 0, none⟩) n cap) (l.set k v) ∧ w.grownBy (w.setCell ⟨g, k, none⟩ (.int .i64 v)) (some g) := by
  subst hn
  obtain ⟨h1, h2⟩ := World.ownsRow.stored h k (.int .i64 v)
  refine ⟨?_, h2⟩
  show World.ownsRow _ _ _ _ _ _ _
  rw [List.length_set, List.map_set]
  exact h1
theorem fst_frozen {w : World} {B g n cap : Nat} {l : List Int} (h : OwnI w B (.slice (some ⟨g, 0, none⟩) n cap) l) (hn : n = l.length) (k : Nat) : w.frozen? ⟨g, k, none⟩ = false := by
  subst hn
  exact World.ownsRow.frozenAt h k
theorem fst_noughts (n : Nat) : (madeCells #[Value.int .i64 0] n).toList = (List.replicate n (0 : Int)).map (Value.int .i64) := by
  apply List.ext_getElem
  · simp [size_madeCells]
  · intro j h1 h2
    simp [madeCells, Nat.mod_one]
theorem fst_made {w : World} {B : Nat} {v : Value} {n : Nat} (h : w.ownsRow B 3 1 v n (madeCells #[Value.int .i64 0] n).toList) : OwnI w B v (List.replicate n 0) := by
  show World.ownsRow _ _ _ _ _ _ _
  rw [List.length_replicate, ← fst_noughts]
  exact h
/-- the first q of a list, 0 for all others -/
def pfl (L : List Int) (q : Nat) : List Int := (List.range L.length).map fun j => if j < q then L.getD j 0 else 0
theorem pfl_len (L : List Int) (q : Nat) : (pfl L q).length = L.length := by simp [pfl]
theorem pfl_zero (L : List Int) : pfl L 0 = List.replicate L.length 0 := by
  apply List.ext_getElem
  · simp [pfl]
  · intro j h1 h2; simp [pfl]
theorem pfl_set (L : List Int) (q : Nat) : (pfl L q).set q (L.getD q 0) = pfl L (q + 1) := by
  apply List.ext_getElem
  · simp [pfl]
  · intro j h1 h2
    rw [List.getElem_set]
    split
    · subst_vars; simp [pfl]
    · simp [pfl]
      by_cases c : j < q
      · rw [if_pos c, if_pos (by omega)]
      · rw [if_neg c, if_neg (by omega)]
theorem pfl_all (L : List Int) : pfl L L.length = L := by
  apply List.ext_getElem
  · simp [pfl]
  · intro j h1 h2
    simp [pfl] at h1
    simp [pfl, h1]
/-- all that the loop over times holds -/
structure PS (P : Pl) (T : Int) (w wr : World) (vs : Array Value) (av : Option Addr) (gl G : Nat) (vo : Value) (LL : List Int) (OO : List Pl.Dn) : Prop where
  pb : PB w wr vs
  rd : Rd ED wr av ((P.jobsL T).map (jd P))
  lf : OwnI wr (w.heap.size + 1) (.slice (some ⟨gl, 0, none⟩) (P.jobsL T).length (P.jobsL T).length) LL
  ou : OwnD wr G vo OO
  sz : G ≤ wr.heap.size
section
variable {P : Pl} {T : Int} {w wr w' : World} {vs : Array Value} {av : Option Addr} {gl G : Nat} {vo vo' : Value} {LL : List Int} {OO OO' : List Pl.Dn}
theorem PS.below (h : PS P T w wr vs av gl G vo LL OO) (hb : Below wr.heap.size wr w') : PS P T w w' vs av gl G vo LL OO :=
  ⟨h.pb.step hb, h.rd.below hb (Nat.le_refl _), OwnI.below h.lf hb (Nat.le_refl _), Own.below h.ou hb (Nat.le_refl _), Nat.le_trans h.sz hb.size⟩
theorem rd_own {α : Type} {E : Enc α} {w w' : World} {a : Option Addr} {l : List α} {row : Option Nat} (h : Rd E w a l) (hg : w.grownBy w' row) (hne : ∀ q, a = some q → some q.block ≠ row) : Rd E w' a l := by
  rcases h with rfl | ⟨b, off, rfl, h⟩
  · exact .inl rfl
  · refine .inr ⟨b, off, rfl, fun i j hi hj => ?_⟩
    have h1 := h i j hi hj
    have hb := hne _ rfl
    rw [List.getElem?_eq_getElem (by rw [E.hk]; exact hj)] at h1 ⊢
    exact hg.cell h1 hb
theorem PS.set (h : PS P T w wr vs av gl G vo LL OO) (hn : (P.jobsL T).length = LL.length) (hg1 : gl < G) (hg2 : w.heap.size + 1 ≤ gl) (ha : ∀ q, av = some q → q.block < gl) (k : Nat) (v : Int) : PS P T w (wr.setCell ⟨gl, k, none⟩ (.int .i64 v)) vs av gl G vo (LL.set k v) OO := by
  obtain ⟨o, g⟩ := fst_row h.lf hn k v
  refine ⟨h.pb.row g (fun q hq => by simp at hq; omega), rd_own h.rd g (fun q hq => by have := ha q hq; simp; omega), o, Own.kept h.ou g ?_, Nat.le_trans h.sz g.size⟩
  by_cases c : vo.ownBlock = none
  · exact .inl c
  · refine .inr fun e => ?_
    have := (Own.lt h.ou _ e).1
    omega
theorem PS.out (h : PS P T w wr vs av gl G vo LL OO) (hg1 : gl < G) (hg2 : w.heap.size + 1 ≤ gl) (ha : ∀ q, av = some q → q.block < gl) (hg : wr.grownBy w' vo.ownBlock) (ho : OwnD w' G vo' OO') : PS P T w w' vs av gl G vo' LL OO' := by
  have hb : ∀ q, vo.ownBlock = some q → G ≤ q := fun q hq => (Own.lt h.ou q hq).1
  refine ⟨h.pb.row hg (fun q hq => by have := hb q hq; omega), rd_own h.rd hg (fun q hq e => ?_), World.ownsRow.kept h.lf hg (.inr fun e => ?_), ho, Nat.le_trans h.sz hg.size⟩
  · have := ha q hq
    have := hb _ e.symm
    omega
  · have := hb gl (by simpa [Value.ownBlock] using e.symm)
    omega
end
set_option maxRecDepth 20000 in
set_option maxHeartbeats 1600000 in
theorem rplayed_any (P : Pl) (T : Int) (a b c : Option Addr) (ca cb cc : Nat) (w : World) (hr : Tks w a P.l) (hf : Row w b P.f) (hs : Sps w c P.sl) (R : Rt P T) :
    Calls Try.prog 20 #[.slice a P.l.length ca, .agg #[.int .i64 P.size, .slice c P.sl.length cc], .slice b P.f.length cb, .int .i64 P.pol, .int .i64 T] w fun e w' => (∃ v, e = .returned (.tuple #[v, .int .i64 (P.idles T.toNat)]) ∧ OwnD w' w.heap.size v (P.outs T.toNat)) ∧ Below w.heap.size w w' := by
  obtain ⟨s1, s2, s3, s4⟩ := chk_zero R.ck
  have hP := R.ok
  have H1 := hid (fun W (h : Below w.heap.size w W) => rjobs_any P hP a b ca cb T W (hr.below h (Nat.le_refl _)) (Row.below hf h (Nat.le_refl _)) R.l16 R.fk R.t0 R.t1)
  rw [decide_eq_true R.few] at H1
  have HIN := hid (fun X W (h : Below w.heap.size w W) => inSpans_any c cc P.sl X W (hs.below h (Nat.le_refl _)) (by unfold maxLen; omega))
  have HR := hid hr
  have HP := hid hP
  have HMM := hid (fun q (h : q < (P.jobsL T).length) => Pl.jq_mem hP h)
  have HLL := hid (fun t => Pl.lfs_len P T t)
  have HLA := hid (fun t q (h : q < (P.jobsL T).length) => Pl.lfs_at P (T := T) (t := t) h)
  have HL0 := hid (fun q (h : q < (P.jobsL T).length) => (by rw [Pl.lfs_at P h]; rfl : (P.lfs T 0).getD q 0 = (P.tk (P.jq T q).1).1))
  have HFEW := hid R.few
  have HOB := hid (outs_bd P hP)
  have HIB := hid (idles_bd P hP)
  have t0 := R.t0
  have t1 := R.t1
  obtain ⟨i0, hi, hz0, hz1, hz2⟩ := info_parts infoInt
  have Hi := hid hi
  have Hz0 := hid hz0
  have Hz1 := hid hz1
  have Hz2 := hid hz2
  obtain ⟨i1, hi1, hz01, hz11, hz21⟩ := info_parts infoD
  have Hi1 := hid hi1
  have Hz01 := hid hz01
  have Hz11 := hid hz11
  have Hz21 := hid hz21
  clear hr hf hs R hP hi hz0 hz1 hz2 hi1 hz01 hz11 hz21 s4
  go_enter Try.func20, Try.ntmps20
  go_wp2_with fail
  refine (H1.out _ (PB.start w _).bel).mono ?_
  rintro e w1 ⟨⟨va, rfl, ho⟩, b1⟩
  have B1 := hid ((PB.start w #[.int .i64 P.size, .slice c P.sl.length cc]).step b1)
  have hav : ∃ av cv, va = .slice av (P.jobsL T).length cv ∧ Rd ED w1 av ((P.jobsL T).map (jd P)) ∧ ∀ q, av = some q → q.block < w1.heap.size := by
    obtain ⟨av, cv, e, hrd, _⟩ := ho.rd
    rw [List.length_map] at e
    refine ⟨av, cv, e, hrd, fun q hq => ?_⟩
    rcases ho.form with ⟨e2, _⟩ | ⟨g, c', e2, _, h2, _⟩
    · rw [e, hq] at e2; simp at e2
    · rw [e, hq] at e2
      injection e2 with e2
      injection e2 with e2
      rw [e2]; exact h2
  obtain ⟨av, cv, rfl, hrd, hab⟩ := hav
  have R1 := hid hrd
  have HAB := hid hab
  have hs1 := B1.out.sz
  have HS1 := hid hs1
  generalize hN : (P.jobsL T).length = n at *
  have hn2 : n ≤ 2000 := HFEW.out
  clear ho b1 hrd hab hs1
  go_wp2_with (at_make; refine wpList_make_full _ rfl _ _ 26 rfl (w.heap.size + 1) 3 i0 (.int .i64 0) 1 Try.underlying26 Hi.out Hz0.out Hz1.out _ _ _ _ n rfl rfl ?qd1 ?qd2 ?qd3 ?qd4 ?qd5 ?_)
  case qd1 => rfl
  case qd2 => rfl
  case qd3 => rw [Hz2.out]; omega
  case qd4 => unfold maxLen; omega
  case qd5 => exact HS1.out
  intro w2 hown hgrow
  have HLN := hid (show (P.lfs T 0).length = n from HLL.out 0)
  have HO2 : Hid (OwnI w2 (w.heap.size + 1) (.slice (some ⟨w1.heap.size, 0, none⟩) n n) (pfl (P.lfs T 0) 0)) := by
    show OwnI _ _ _ _
    rw [pfl_zero, HLN.out]
    exact fst_made hown
  have b2 : Below w1.heap.size w1 w2 := Below.grown (Below.refl _ _) hgrow (Nat.le_refl _) (fun k hk => by simp at hk)
  have B2 := hid (B1.out.step b2)
  have R2 := hid (Rd.below R1.out b2 (Nat.le_refl _))
  clear hown hgrow b2
  generalize w1.heap.size = gl at *
  have hgl : w.heap.size + 1 ≤ gl := HS1.out
  have HPS := hid (fun q => pfl_set (P.lfs T 0) q)
  have HPL := hid (fun q => pfl_len (P.lfs T 0) q)
  have HPA := hid (pfl_all (P.lfs T 0))
  go_wp2_with fail
  go_loopw [36] (fun v36 wr => ∃ q : Nat, q ≤ n ∧ v36 = .int .i64 q ∧ OwnI wr (w.heap.size + 1) (.slice (some ⟨gl, 0, none⟩) n n) (pfl (P.lfs T 0) q) ∧ Rd ED wr av ((P.jobsL T).map (jd P)) ∧ PB w wr #[.int .i64 P.size, .slice c P.sl.length cc] ∧ gl < wr.heap.size) (fun v36 _ => n - (intOf v36).toNat)
  case atStart => exact ⟨0, by omega, rfl, HO2.out, R2.out, B2.out, (OwnI.form HO2.out).elim (fun h => by simp at h) (fun ⟨g', c', e, _, h, _⟩ => by injection e with e; injection e with e; injection e with e; omega)⟩
  case round =>
    obtain ⟨q, hq, rfl, ho, hrd, hb, hgs⟩ := hrel
    have B := hid hb
    have HO := hid ho
    have RD := hid hrd
    by_cases hlt : q < n
    · obtain ⟨pv, ov, rfl, a0, a1, a2, a3⟩ := rd_job P T hrd (by rw [hN]; exact hlt)
      obtain ⟨hi, hcm⟩ := HMM.out q hlt
      have hl0 := HL0.out q hlt
      generalize P.jq T q = bj at *
      obtain ⟨i, k⟩ := bj
      simp only at hi hcm hl0 a0 a1 a2 a3
      obtain ⟨bt, ot, rfl, hbt, d1, d2, d3⟩ := HR.out.at i hi
      have hz : zTk = (0, 0, 0) := rfl
      rw [hz, ← Pl.tk_at] at d1
      rw [← hl0] at d1
      have y3 := (hb.bel.cell hbt).trans d1
      have hbtr : bt < wr.heap.size := World.block_lt_of_cell? wr _ y3
      have HST := hid (fun W (h : OwnI W (w.heap.size + 1) (.slice (some ⟨gl, 0, none⟩) n n) (pfl (P.lfs T 0) q)) => fst_row h (by rw [HPL.out, HLN.out]) q ((P.lfs T 0).getD q 0))
      have HSQ := hid (HPS.out q)
      have y0 := OwnI.cell ho q (by rw [HPL.out, HLN.out]; exact hlt)
      have hpv : pv < wr.heap.size := World.block_lt_of_cell? wr _ a0
      have hpg : pv < gl := HAB.out _ rfl
      have ii : (i : Int) < (P.l.length : Int) := by omega
      have qq : (q : Int) < (n : Int) := by omega
      generalize P.cm i k = cm at *
      generalize (P.lfs T 0).getD q 0 = lg at *
      clear ho hrd hb d1 d2 d3 hl0 hcm
      have hbV : Below wr.heap.size wr (wr.alloc (.cells #[.int .i64 i, .int .i64 k, .int .i64 cm, .int .i64 0] 40)) := (Below.refl _ _).alloc (Nat.le_refl _) _
      have OV := hid (OwnI.below HO.out hbV (Nat.le_refl _))
      have RV := hid (Rd.below RD.out hbV (Nat.le_refl _))
      have BV := hid (B.out.step hbV)
      have y0' := (hbV.cell (World.block_lt_of_cell? _ _ y0)).trans y0
      have y1' := fst_frozen OV.out (by rw [HPL.out, HLN.out]) q
      have SV := hid (HST.out _ HO.out)
      have HGS := hid hgs
      clear hbV
      go_upto_region 7 with fail
      obtain ⟨o4, g4⟩ := SV.out
      rw [HSQ.out] at o4
      have hal := fun W : World => (Below.refl W.heap.size W).alloc (Nat.le_refl _) (.cells #[.int .i64 i, .int .i64 k, .int .i64 cm, .int .i64 0] 40)
      have B4 := hid ((B.out.row g4 (fun j hj => by simp at hj; omega)).step (hal _))
      have R4 := hid (Rd.below (rd_own RD.out g4 (fun j hj => by have := HAB.out j hj; simp; omega)) (hal _) (Nat.le_refl _))
      have G4 := hid (Nat.lt_of_lt_of_le HGS.out (Nat.le_trans g4.size (hal _).size))
      have O4 := hid (OwnI.below o4 (hal _) (Nat.le_refl _))
      clear o4 g4 y0 y0' y1' y3 a0 a1 a2 a3 hal
      go_wp2_with fail
      go_roundw
      case rel => exact ⟨q + 1, by omega, by go_num, O4.out, R4.out, B4.out, G4.out⟩
      case measure => simp [intOf]; omega
    · obtain rfl : n = q := by omega
      have hlen := HLN.out
      have O3 := hid (show OwnI wr (w.heap.size + 1) (.slice (some ⟨gl, 0, none⟩) n n) (P.lfs T 0) by
        have := ho
        rw [← hlen, HPA.out, hlen] at this
        exact this)
      have S0 := hid (show PS P T w wr #[.int .i64 P.size, .slice c P.sl.length cc] av gl wr.heap.size (.slice none 0 0) (P.lfs T 0) (P.outs 0) from ⟨B.out, RD.out, by rw [hN]; exact O3.out, Own.nil _ _ _ _, Nat.le_refl _⟩)
      have HTO := hid (fun t (h : P.on t = false) => Pl.t_off HP.out (T := T) h)
      have HTI := hid (fun t (h : P.on t = true) hn => Pl.t_idle HP.out (T := T) (t := t) h hn)
      have HTW := hid (fun t β (h : P.on t = true) hβ hb => Pl.t_work HP.out (T := T) (t := t) (β := β) h hβ hb)
      have HID0 := hid (show P.idles 0 = 0 from rfl)
      clear ho hrd hb hlen
      go_wp2_with fail
      generalize hG : wr.heap.size = G at *
      clear hG
      go_loopw [17, 18, 52] (fun v17 v18 v52 wr => ∃ t : Nat, (t : Int) ≤ T ∧ v18 = .int .i64 (P.idles t) ∧ v52 = .int .i64 t ∧ PS P T w wr #[.int .i64 P.size, .slice c P.sl.length cc] av gl G v17 (P.lfs T t) (P.outs t)) (fun _ _ v52 _ => T.toNat - (intOf v52).toNat)
      case atStart => exact ⟨0, by omega, by rw [HID0.out], rfl, S0.out⟩
      case round =>
        obtain ⟨t, htT, rfl, rfl, S⟩ := hrel
        have SS := hid S
        obtain ⟨po, co, hvo⟩ := S.ou.slice
        subst hvo
        have hid1 := HIB.out t
        by_cases hlt : (t : Int) < T
        · obtain ⟨X, hX⟩ : ∃ X, X = (t : Int) % P.size := ⟨_, rfl⟩
          have hX0 : 0 ≤ X := by rw [hX]; exact Int.emod_nonneg _ (by omega)
          have hX1 : X < P.size := by rw [hX]; exact Int.emod_lt_of_pos _ (by omega)
          have m4 : (t : Int).tmod P.size = X := by rw [hX]; exact Int.tmod_eq_emod_of_nonneg (by omega)
          have hon : P.on t = mem P.sl X := by rw [hX]; rfl
          have HON := hid hon
          have HIX := hid (HIN.out X)
          have hz1 : ¬ P.size = 0 := by omega
          have hz2 : (P.size == 0) = false := by simp [hz1]
          have wrX : IntKind.i64.wrap X = X := by rw [IntKind.wrap_i64]; omega
          have wrX2 : IntKind.i64.wrap ((t : Int).tmod P.size) = X := by rw [m4]; exact wrX
          have x0 := box_cell S.pb.set 0
          have x1 := box_cell S.pb.set 1
          simp at x0 x1
          have p0 := BelowOf.cell x0
          have p1 := BelowOf.cell x1
          have LV := hid S.pb.bel
          clear hX hon S
          cases hmem : mem P.sl X with
          | false =>
            rw [hmem] at HIX HON
            obtain ⟨e1, e2, e3⟩ := HTO.out t HON.out
            clear hmem
            go_wp2_with fail
            clear x0 x1
            refine wp_region_quiet_below (by kernel_rfl) (by kernel_rfl) ?_
            repeat (first | go_big_quiet_step (first | (go_at_call 54; rename_i pp; exact Calls.below_of pp (HIX.out _ (bel_of LV.out pp.hb)))) | quiet_step (first | (go_at_call 54; rename_i pp; exact Calls.below_of pp (HIX.out _ (bel_of LV.out pp.hb)))))
            refine wpQuiet_nil ?_
            rintro w5 ⟨pp, hpp⟩
            have b5 := pp.hb
            rw [← hpp] at b5
            have S5 := hid (SS.out.below b5)
            have E1 := hid e1
            have E2 := hid e2
            have E3 := hid e3
            clear hpp pp p0 p1 b5 e1 e2 e3
            go_wp2_with fail
            go_roundw
            case rel => exact ⟨t + 1, by omega, by rw [E3.out], by go_num, by rw [E1.out, E2.out]; exact S5.out⟩
            case measure => simp [intOf]; omega
          | true =>
            rw [hmem] at HIX HON
            clear hmem
            go_wp2_with fail
            clear x0 x1
            refine wp_region_quiet_below (by kernel_rfl) (by kernel_rfl) ?_
            repeat (first | go_big_quiet_step (first | (go_at_call 54; rename_i pp; exact Calls.below_of pp (HIX.out _ (bel_of LV.out pp.hb)))) | quiet_step (first | (go_at_call 54; rename_i pp; exact Calls.below_of pp (HIX.out _ (bel_of LV.out pp.hb)))))
            refine wpQuiet_nil ?_
            rintro w5 ⟨pp, hpp⟩
            have b5 := pp.hb
            rw [← hpp] at b5
            have S5 := hid (SS.out.below b5)
            clear hpp pp p0 p1 b5
            go_wp2_with fail
            go_loopw [20, 65] (fun v20 v65 wr => ∃ (q : Nat) (b : Int), q ≤ n ∧ v20 = .int .i64 b ∧ v65 = .int .i64 q ∧ Hid (P.Bp T t q b) ∧ Below w5.heap.size w5 wr) (fun _ v65 _ => n - (intOf v65).toNat)
            case atStart => exact ⟨0, -1, by omega, rfl, rfl, Pl.Bp.start P T t, Below.refl _ _⟩
            case round =>
              obtain ⟨q, bb, hq, rfl, rfl, hBp, hb⟩ := hrel
              have HB := hid hb
              have S6 := hid (S5.out.below hb)
              have hsz := hb.size
              by_cases hqn : q < n
              · obtain ⟨pv, ov, hpe, a0, a1, a2, a3⟩ := rd_job P T S6.out.rd (by rw [hN]; exact hqn)
                subst hpe
                obtain ⟨hi, hcm⟩ := HMM.out q hqn
                have y0 := OwnI.cell S6.out.lf q (by rw [HLL.out]; exact hqn)
                rw [HLA.out t q hqn] at y0
                have hnn := Pl.Lf_nonneg HP.out t hi (P.jq T q).2
                have hok := HP.out.at hi
                have hco := HP.out.come hi (P.jq T q).2
                obtain ⟨bt, ot, hte, hbt, d1, d2, d3⟩ := HR.out.at (P.jq T q).1 hi
                subst hte
                have hz : zTk = (0, 0, 0) := rfl
                rw [hz, ← Pl.tk_at] at d3
                have y3 := ((S6.out.pb.bel).cell hbt).trans d3
                have HSK := hid (fun h : ¬ (P.cm (P.jq T q).1 (P.jq T q).2 ≤ (t : Int) ∧ P.Lf t (P.jq T q).1 (P.jq T q).2 ≠ 0) => hBp.out.skip (fun hp => h ⟨hp.2.1, by have := hp.2.2; omega⟩))
                have HPQ := hid (fun (h1 : P.cm (P.jq T q).1 (P.jq T q).2 ≤ (t : Int)) (h2 : P.Lf t (P.jq T q).1 (P.jq T q).2 ≠ 0) => pq_of hi h1 (by omega))
                have hform : bb = -1 ∨ ∃ β : Nat, bb = β ∧ β < q := by
                  rcases hBp.out with ⟨h1, _⟩ | ⟨β, h1, h2, _⟩
                  · exact .inl h1
                  · exact .inr ⟨β, h1, h2⟩
                have HFI := hid (fun (h : bb = -1) (hp : P.Pq T t q) => (by subst h; exact hBp.out.first hp : P.Bp T t (q + 1) q))
                have HKY : Hid (P.ky (P.jq T q).1 (P.jq T q).2 = if P.pol = 1 then P.cm (P.jq T q).1 (P.jq T q).2 + (P.tk (P.jq T q).1).2.2 else 0) := rfl
                have HTU := hid (fun (β : Nat) (h : bb = β) (hp : P.Pq T t q) (hk : P.ky (P.jq T q).1 (P.jq T q).2 < P.ky (P.jq T β).1 (P.jq T β).2) => (by subst h; exact hBp.out.turn hp hk : P.Bp T t (q + 1) q))
                have HSY := hid (fun (β : Nat) (h : bb = β) (hk : ¬ P.ky (P.jq T q).1 (P.jq T q).2 < P.ky (P.jq T β).1 (P.jq T β).2) => (by subst h; exact hBp.out.stay (by rw [hN]; exact hqn) hk : P.Bp T t (q + 1) β))
                have hpv : pv < wr.heap.size := World.block_lt_of_cell? wr _ a0
                have hgs : gl < wr.heap.size := World.block_lt_of_cell? wr ⟨gl, q, none⟩ y0
                have hbtr : bt < wr.heap.size := World.block_lt_of_cell? wr _ y3
                have ii : ((P.jq T q).1 : Int) < (P.l.length : Int) := by omega
                have qq : (q : Int) < (n : Int) := by omega
                obtain ⟨o1, o2, o3, o4, o5, o6⟩ := hok
                have hbase : bb = -1 → True := fun _ => trivial
                clear hb d1 d2 d3 hz hbase o1 o5 o6
                generalize hky : P.ky (P.jq T q).1 (P.jq T q).2 = kq at *
                generalize P.cm (P.jq T q).1 (P.jq T q).2 = cm at *
                generalize P.Lf t (P.jq T q).1 (P.jq T q).2 = lv at *
                generalize hjq2 : (P.jq T q).2 = k at *
                generalize hjq1 : (P.jq T q).1 = i at *
                generalize hTK : P.tk i = tk at *
                clear hky hjq2 hjq1 hTK
                have wr1 : IntKind.i64.wrap (cm + tk.2.2) = cm + tk.2.2 := by rw [IntKind.wrap_i64]; omega
                by_cases hct : cm ≤ (t : Int)
                · have g1 : decide ((t : Int) < cm) = false := by rw [decide_eq_false_iff_not]; omega
                  by_cases hl0 : lv = 0
                  · have g2 : (lv == 0) = true := by simp [hl0]
                    have HX := hid (HSK.out (fun h => h.2 hl0))
                    clear hl0
                    go_wp2_with fail
                    go_roundw
                    case rel => exact ⟨q + 1, bb, by omega, rfl, by go_num, HX, HB.out.alloc hsz _⟩
                    case measure => simp [intOf]; omega
                  · have g2 : (lv == 0) = false := by simp [hl0]
                    have HPP := hid (HPQ.out hct hl0)
                    rcases hform with hb1 | ⟨β, hb1, hbq⟩
                    · have HX := hid (HFI.out hb1 HPP.out)
                      subst hb1
                      go_wp2_with fail
                      go_quiet (fail)
                      have HDR := hid (fun m => below_drewN ((Below.refl wr.heap.size wr).alloc (Nat.le_refl _) (.cells #[.int .i64 i, .int .i64 k, .int .i64 cm, .int .i64 0] 40)) m)
                      go_wp2_with fail
                      go_roundw
                      case rel => exact ⟨q + 1, q, by omega, rfl, by go_num, HX, bel_of HB.out (HDR.out _)⟩
                      case measure => simp [intOf]; omega
                    · obtain ⟨hbi, hbcm⟩ := HMM.out β (by omega)
                      obtain ⟨pv', ov', hpe2, b0, b1, b2, b3⟩ := rd_job P T S6.out.rd (q := β) (by rw [hN]; omega)
                      injection hpe2 with hpe2
                      injection hpe2 with hpe3 hpe4
                      subst hpe3 hpe4
                      obtain ⟨bt', ot', hte2, _, e1, e2, e3⟩ := HR.out.at (P.jq T β).1 hbi
                      injection hte2 with hte2
                      injection hte2 with hte3 hte4
                      subst hte3 hte4
                      have hz : zTk = (0, 0, 0) := rfl
                      rw [hz, ← Pl.tk_at] at e3
                      have y4 := ((S6.out.pb.bel).cell hbt).trans e3
                      have hokb := HP.out.at hbi
                      have hcob := HP.out.come hbi (P.jq T β).2
                      have HKB : Hid (P.ky (P.jq T β).1 (P.jq T β).2 = if P.pol = 1 then P.cm (P.jq T β).1 (P.jq T β).2 + (P.tk (P.jq T β).1).2.2 else 0) := rfl
                      have HTUB := hid (HTU.out β hb1 HPP.out)
                      have HSYB := hid (HSY.out β hb1)
                      have iib : ((P.jq T β).1 : Int) < (P.l.length : Int) := by omega
                      have qqb : (β : Int) < (n : Int) := by omega
                      obtain ⟨o1, o2', o3', o4', o5, o6⟩ := hokb
                      clear e1 e2 e3 hz o1 o5 o6 hbi b1 b3
                      generalize P.ky (P.jq T β).1 (P.jq T β).2 = kb at *
                      generalize P.cm (P.jq T β).1 (P.jq T β).2 = cmb at *
                      generalize (P.jq T β).2 = k2 at *
                      generalize (P.jq T β).1 = ib at *
                      generalize P.tk ib = tkb at *
                      have wr2 : IntKind.i64.wrap (cmb + tkb.2.2) = cmb + tkb.2.2 := by rw [IntKind.wrap_i64]; omega
                      have f1 : decide ((β : Int) < 0) = false := by simp
                      subst hb1
                      have HDR := hid (fun m => below_drewN ((Below.refl wr.heap.size wr).alloc (Nat.le_refl _) (.cells #[.int .i64 i, .int .i64 k, .int .i64 cm, .int .i64 0] 40)) m)
                      by_cases hp1 : P.pol = 1
                      · have g3 : (P.pol == 1) = true := by simp [hp1]
                        by_cases hlt2 : cm + tk.2.2 < cmb + tkb.2.2
                        · have g4 : decide (cm + tk.2.2 < cmb + tkb.2.2) = true := decide_eq_true hlt2
                          have HX := hid (HTUB.out (by rw [HKY.out, HKB.out, if_pos hp1, if_pos hp1]; exact hlt2))
                          clear hp1
                          go_wp2_with fail
                          go_quiet (fail)
                          go_wp2_with fail
                          go_roundw
                          case rel => exact ⟨q + 1, q, by omega, rfl, by go_num, HX, bel_of HB.out (HDR.out _)⟩
                          case measure => simp [intOf]; omega
                        · have g4 : decide (cm + tk.2.2 < cmb + tkb.2.2) = false := decide_eq_false hlt2
                          have HX := hid (HSYB.out (by rw [HKY.out, HKB.out, if_pos hp1, if_pos hp1]; exact hlt2))
                          clear hp1
                          go_wp2_with fail
                          go_quiet (fail)
                          go_wp2_with fail
                          go_roundw
                          case rel => exact ⟨q + 1, β, by omega, rfl, by go_num, HX, bel_of HB.out (HDR.out _)⟩
                          case measure => simp [intOf]; omega
                      · have g3 : (P.pol == 1) = false := by simp [hp1]
                        have HX := hid (HSYB.out (by rw [HKY.out, HKB.out, if_neg hp1, if_neg hp1]; omega))
                        clear hp1
                        go_wp2_with fail
                        go_quiet (fail)
                        go_wp2_with fail
                        go_roundw
                        case rel => exact ⟨q + 1, β, by omega, rfl, by go_num, HX, bel_of HB.out (HDR.out _)⟩
                        case measure => simp [intOf]; omega
                · have g1 : decide ((t : Int) < cm) = true := by rw [decide_eq_true_eq]; omega
                  have HX := hid (HSK.out (fun h => hct h.1))
                  go_wp2_with fail
                  go_roundw
                  case rel => exact ⟨q + 1, bb, by omega, rfl, by go_num, HX, HB.out.alloc hsz _⟩
                  case measure => simp [intOf]; omega
              · have hqe : n = q := by omega
                subst hqe
                have hform : bb = -1 ∨ ∃ β : Nat, bb = β := by
                  rcases hBp.out with ⟨h1, _⟩ | ⟨β, h1, _⟩
                  · exact .inl h1
                  · exact .inr ⟨β, h1⟩
                clear hb
                rcases hform with hb1 | ⟨β, hb1⟩
                · have hnone := Pl.Bp.none HP.out hlt (by rw [hN]; have := hBp.out; rw [hb1] at this; exact this)
                  obtain ⟨e1, e2, e3⟩ := HTI.out t HON.out hnone
                  have E1 := hid e1
                  have E2 := hid e2
                  have E3 := hid e3
                  subst hb1
                  clear e1 e2 e3 hnone
                  go_wp2_with fail
                  go_roundw
                  case rel => exact ⟨t + 1, by omega, by rw [E3.out], by go_num, by rw [E1.out, E2.out]; exact S6.out⟩
                  case measure => simp [intOf]; omega
                · obtain ⟨hβn, hbest⟩ := Pl.Bp.best HP.out hlt (β := β) (by rw [hN]; have := hBp.out; rw [hb1] at this; exact this)
                  obtain ⟨e1, e2, e3⟩ := HTW.out t β HON.out hβn hbest
                  have E1 := hid e1
                  have E2 := hid e2
                  have E3 := hid e3
                  have hβ2 : β < n := by rw [← hN]; exact hβn
                  have y0 := OwnI.cell S6.out.lf β (by rw [HLL.out]; exact hβ2)
                  rw [HLA.out t β hβ2] at y0
                  have hv1 := hbest.1.2.2
                  have hv2 := Pl.Lf_le HP.out t (P.jq T β).1 (P.jq T β).2
                  have hok := HP.out.at hbest.1.1
                  obtain ⟨o1, o2, o3, o4, o5, o6⟩ := hok
                  have S7 := hid (S6.out.set (by rw [hN, HLL.out]) hgs hgl HAB.out β (P.Lf t (P.jq T β).1 (P.jq T β).2 - 1))
                  have y1 := fst_frozen S6.out.lf (by rw [HLL.out, hN]) β
                  have hsetd := hid (show ((P.lfs T t).set β (P.Lf t (P.jq T β).1 (P.jq T β).2 - 1)).getD β 0 = P.Lf t (P.jq T β).1 (P.jq T β).2 - 1 by
                    have h5 := HLL.out t
                    simp [List.getD, h5, hβ2])
                  have hsetl := hid (show ((P.lfs T t).set β (P.Lf t (P.jq T β).1 (P.jq T β).2 - 1)).length = n by rw [List.length_set, HLL.out])
                  have hv3 : P.Lf t (P.jq T β).1 (P.jq T β).2 ≤ 10000 := by omega
                  have ibn : (β : Int) < (n : Int) := by omega
                  have f1 : decide ((β : Int) < 0) = false := by simp
                  subst hb1
                  clear e1 e2 e3 hbest hv2 o1 o2 o3 o4 o5 o6
                  generalize (P.lfs T t).set β (P.Lf t (P.jq T β).1 (P.jq T β).2 - 1) = LS at *
                  generalize P.Lf t (P.jq T β).1 (P.jq T β).2 = v at *
                  go_upto_region 25 with fail
                  obtain ⟨V3, hV3⟩ : ∃ V3, V3 = wr.setCell ⟨gl, β, none⟩ (.int .i64 (v - 1)) := ⟨_, rfl⟩
                  rw [← hV3] at S7 ⊢
                  clear y0 y1 hV3
                  have y2 := OwnI.cell S7.out.lf β (by rw [hsetl.out]; exact hβ2)
                  rw [hsetd.out] at y2
                  by_cases hv : v = 1
                  · have g5 : ((v - 1) == 0) = true := by simp [hv]
                    obtain ⟨pv, ov, hpe, a0, a1, a2, a3⟩ := rd_job P T S7.out.rd hβn
                    subst hpe
                    have EO := hid (E2.out.trans (if_pos hv))
                    have hol := HOB.out t
                    generalize P.cm (P.jq T β).1 (P.jq T β).2 = cm at *
                    generalize (P.jq T β).2 = k2 at *
                    generalize (P.jq T β).1 = ib at *
                    generalize P.outs t = Z at *
                    have hs7 := S7.out.sz
                    go_wp2_with (at_builtin; refine wpList_append_own _ rfl _ _ 27 rfl G 40 i1 (.agg #[.int .i64 0, .int .i64 0, .int .i64 0, .int .i64 0]) 4 32 Try.underlying27 Hi1.out Hz01.out Hz11.out Hz21.out rfl (by decide) _ Z.length (ED.flat Z) rfl ?qc0 ⟨V3.heap.size + 1, 0, none⟩ 1 1 (ED.enc ((ib : Int), (k2 : Int), cm, (t : Int) + 1)) ?qcx ?qc1 ?qc2 ?qc3 ?qc4 ?qc5 ?qc6 ?_)
                    case qc0 => exact World.ownsRow.alloc (World.ownsRow.alloc S7.out.ou _) _
                    case qcx => rfl
                    case qc1 => rfl
                    case qc2 =>
                      intro j u hj
                      match j, hj with
                      | 0, hj => simp [ED] at hj; subst hj; exact World.cell?_alloc_at _ _ _ _ (by simp)
                      | 1, hj => simp [ED] at hj; subst hj; exact World.cell?_alloc_at _ _ _ _ (by simp)
                      | 2, hj => simp [ED] at hj; subst hj; exact World.cell?_alloc_at _ _ _ _ (by simp)
                      | 3, hj => simp [ED] at hj; subst hj; exact World.cell?_alloc_at _ _ _ _ (by simp)
                      | j + 4, hj => simp [ED] at hj
                    case qc3 => exact ED.h1 _
                    case qc4 => unfold maxLen; omega
                    case qc5 => omega
                    case qc6 => simp; omega
                    intro v' w8 hown hgrow hnil
                    have HO8 : OwnD w8 G v' (Z ++ [((ib : Int), (k2 : Int), cm, (t : Int) + 1)]) := own_snoc hown rfl rfl
                    have S8 := hid ((S7.out.below (below_two V3 (.cells #[.int .i64 ib, .int .i64 k2, .int .i64 cm, .int .i64 ((t : Int) + 1)] 40) (.cells (ED.enc ((ib : Int), (k2 : Int), cm, (t : Int) + 1)).toArray 40))).out hgs hgl HAB.out hgrow HO8)
                    clear hown hgrow hnil HO8 a0 a1 a2 a3 y2
                    go_wp2_with fail
                    go_roundw
                    case rel => exact ⟨t + 1, by omega, by rw [E3.out], by go_num, by rw [E1.out, EO.out]; exact S8.out⟩
                    case measure => simp [intOf]; omega
                  · have g5 : ((v - 1) == 0) = false := by rw [beq_eq_false_iff_ne]; omega
                    have EO := hid (E2.out.trans (if_neg hv))
                    go_wp2_with fail
                    go_roundw
                    case rel => exact ⟨t + 1, by omega, by rw [E3.out], by go_num, by rw [E1.out, EO.out]; exact S7.out⟩
                    case measure => simp [intOf]; omega
        · have hte : t = T.toNat := by omega
          have HTE := hid hte
          have hwG : w.heap.size ≤ G := by omega
          have HWG := hid hwG
          clear S
          go_wp2_with fail
          go_ret2
          exact ⟨⟨_, by rw [← HTE.out]; rfl, by rw [← HTE.out]; exact Own.base SS.out.ou HWG.out⟩, SS.out.pb.bel⟩
end PlayC
end Go.Proofs.Ytpnahhpkaegeeaa
