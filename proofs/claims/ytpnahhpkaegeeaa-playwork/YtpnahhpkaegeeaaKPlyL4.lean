/- Several texts, one behind the other: PlyL4. -/
import Derived.Test.YtpnahhpkaegeeaaPkR
import Derived.Test.YtpnahhpkaegeeaaPkI
import Derived.Deep.OwnRows
/- The walk of PlayMisses. -/
set_option linter.unusedVariables false
namespace Go.Proofs.Ytpnahhpkaegeeaa
open Go.RowKit hiding tok
open SpanM SupM SpanC TaskM PlayM
open RowsO hiding Tk
namespace PlayC
open NumC (Row)
open RowG
open TaskC (fitE fitB fitN Fits_any fit_true fit_cases fitE_zero Fit tchk_zero)
/-- numbers that a call has made, as a row -/
theorem ownI_row {w : World} {B : Nat} {v : Value} {l : List Int} (h : OwnI w B v l) : ∃ a cap, v = .slice a l.length cap ∧ Row w a l ∧ (a = none → l.length = 0 ∧ cap = 0) := by
  rcases OwnI.form h with ⟨rfl, rfl⟩ | ⟨g, cap, rfl, _⟩
  · exact ⟨none, 0, rfl, .inl rfl, fun _ => ⟨rfl, rfl⟩⟩
  · exact ⟨_, cap, rfl, .inr ⟨g, 0, rfl, fun i hi => by rw [Nat.zero_add]; exact OwnI.cell h i hi⟩, by simp⟩
theorem ownI_set {w : World} {B g n cap : Nat} {l : List Int} (h : OwnI w B (.slice (some ⟨g, 0, none⟩) n cap) l) (hn : n = l.length) (k : Nat) (v : Int) :
    OwnI (w.setCell ⟨g, k, none⟩ (.int .i64 v)) B (.slice (some ⟨g, 0, none⟩) n cap) (l.set k v) ∧ w.grownBy (w.setCell ⟨g, k, none⟩ (.int .i64 v)) (some g) := by
  subst hn
  obtain ⟨h1, h2⟩ := World.ownsRow.stored h k (.int .i64 v)
  refine ⟨?_, h2⟩
  show World.ownsRow _ _ _ _ _ _ _
  rw [List.length_set, List.map_set]
  exact h1
theorem ownI_frozen {w : World} {B g n cap : Nat} {l : List Int} (h : OwnI w B (.slice (some ⟨g, 0, none⟩) n cap) l) (hn : n = l.length) (k : Nat) : w.frozen? ⟨g, k, none⟩ = false := by
  subst hn
  exact World.ownsRow.frozenAt h k
theorem made_noughts (n : Nat) : (madeCells #[Value.int .i64 0] n).toList = (List.replicate n (0 : Int)).map (Value.int .i64) := by
  apply List.ext_getElem
  · simp [size_madeCells]
  · intro j h1 h2
    simp [madeCells, Nat.mod_one]
theorem ownI_made {w : World} {B : Nat} {v : Value} {n : Nat} (h : w.ownsRow B 3 1 v n (madeCells #[Value.int .i64 0] n).toList) : OwnI w B v (List.replicate n 0) := by
  show World.ownsRow _ _ _ _ _ _ _
  rw [List.length_replicate, ← made_noughts]
  exact h
theorem PB.deep {w wi wj : World} {vs : Array Value} {B : Nat} (h : PB w wi vs) (hb : Below B wi wj) (hB : w.heap.size + 1 ≤ B) : PB w wj vs := by
  have hlt := (Array.getElem?_eq_some_iff.1 h.set).1
  refine ⟨h.bel.trans (hb.mono (by omega)), Nat.le_trans h.sz hb.size, ?_⟩
  rw [hb.block _ (by omega)]
  exact h.set
/-- the places to begin at -/
def ends (sl : List Sp) (k : Nat) : List Int := 0 :: (sl.take k).map (·.2)
theorem ends_zero (sl : List Sp) : ends sl 0 = [0] := by simp [ends]
theorem ends_succ (sl : List Sp) {k : Nat} (h : k < sl.length) : ends sl (k + 1) = ends sl k ++ [(sl.getD k (0, 0)).2] := by
  unfold ends
  rw [take_snoc sl k h]; simp
theorem ends_len (sl : List Sp) {k : Nat} (h : k ≤ sl.length) : (ends sl k).length = k + 1 := by
  unfold ends; simp [h]
theorem ends_bd {s : Int} {sl : List Sp} (hg : good s (-1) sl = true) (hs : 0 ≤ s) : ∀ x ∈ ends sl sl.length, 0 ≤ x ∧ x ≤ s := by
  intro x hx
  unfold ends at hx
  rw [List.take_length] at hx
  rcases List.mem_cons.1 hx with rfl | hx
  · omega
  · obtain ⟨y, hy, rfl⟩ := List.mem_map.1 hx
    have := good_each hg y hy
    omega
/-- the first k of n are x, all others 0 -/
def fill (n : Nat) (x : Int) (k : Nat) : List Int := (List.range n).map fun j => if j < k then x else 0
theorem fill_len (n : Nat) (x : Int) (k : Nat) : (fill n x k).length = n := by simp [fill]
theorem fill_zero (n : Nat) (x : Int) : fill n x 0 = List.replicate n 0 := by
  apply List.ext_getElem
  · simp [fill]
  · intro j h1 h2; simp [fill]
theorem fill_set (n : Nat) (x : Int) (k : Nat) : (fill n x k).set k x = fill n x (k + 1) := by
  apply List.ext_getElem
  · simp [fill]
  · intro j h1 h2
    rw [List.getElem_set]
    split
    · subst_vars; simp [fill]
    · simp [fill]
      by_cases c : j < k
      · rw [if_pos c, if_pos (by omega)]
      · rw [if_neg c, if_neg (by omega)]
/-- so many at x -/
def ats (n : Nat) (x : Int) : List Int := List.replicate n x
theorem ats_len (n : Nat) (x : Int) : (ats n x).length = n := by simp [ats]
theorem fill_all (n : Nat) (x : Int) : fill n x n = ats n x := by
  apply List.ext_getElem
  · simp [fill, ats]
  · intro j h1 h2
    simp [fill, ats]
    intro h
    simp [fill] at h1
    omega
/-- too little from here on -/
def Hit (l : List Tk) (s : Int) (sl : List Sp) (by' at' : Int) : Prop := D s sl by' at' < dem l by'
theorem no_hit {l : List Tk} {s : Int} {sl : List Sp} {by' at' : Int} (hb : 0 ≤ by') (hb2 : by' ≤ 10000) (ha : 0 ≤ at') (ha2 : at' ≤ 10000) (h : plE ⟨l, ats l.length at', s, sl, 1⟩ (min (at' + by') 20000) = 0)
    (hn : ((⟨l, ats l.length at', s, sl, 1⟩ : Pl).lates ((⟨l, ats l.length at', s, sl, 1⟩ : Pl).outs (min (at' + by') 20000).toNat) (min (at' + by') 20000)).length = 0) : ¬ Hit l s sl by' at' := by
  intro hh
  have hR := plE_rt' h
  have hmin : min (at' + by') 20000 = at' + by' := by omega
  rw [hmin] at hn hR
  obtain ⟨a, rfl⟩ : ∃ a : Nat, at' = a := ⟨at'.toNat, by omega⟩
  obtain ⟨b, rfl⟩ : ∃ b : Nat, by' = b := ⟨by'.toNat, by omega⟩
  have hl := List.length_eq_zero_iff.1 hn
  have ht : ((a : Int) + (b : Int)).toNat = a + b := by omega
  have ht2 : (a : Int) + (b : Int) = ((a + b : Nat) : Int) := by omega
  rw [ht, ht2] at hl
  have k3 := (Pl.no_lates hR.ok).1 hl
  obtain ⟨i, k, h1, h2, h3, h4⟩ := Pl.misses_late (P := ⟨l, ats l.length a, s, sl, 1⟩) hR.ok (at' := a) (by' := b) (fun x hx => List.eq_of_mem_replicate hx) hh
  have := k3 i k h1 h3
  omega
theorem some_hit {l : List Tk} {s : Int} {sl : List Sp} (hE : fitE l s sl = 0) (hB : fitB l s sl = false) : ∃ x ∈ ends sl sl.length, Hit l s sl (fitN l s sl) x := by
  obtain ⟨hk, hc, _⟩ := fitE_zero hE
  obtain ⟨s1, s2, s3, s4⟩ := chk_zero hc
  rcases fit_cases hE with ⟨_, f, _⟩ | ⟨n1, n2, _, hb, _⟩
  · rw [f] at hB; simp at hB
  · unfold Bad at hb
    rcases Pl.least_at s1 s4 (show 0 ≤ fitN l s sl by omega) with h | ⟨x, hx, h⟩
    · exact ⟨0, by simp [ends], by unfold Hit; omega⟩
    · refine ⟨x.2, ?_, by unfold Hit; omega⟩
      unfold ends
      rw [List.take_length]
      exact List.mem_cons_of_mem _ (List.mem_map.2 ⟨x, hx, rfl⟩)
set_option maxRecDepth 20000 in
set_option maxHeartbeats 1600000 in
theorem misses_err (l : List Tk) (s : Int) (sl : List Sp) (a c : Option Addr) (ca cc : Nat) (w : World) (hr : Tks w a l) (hs : Sps w c sl)
    (h : fitE l s sl ≠ 0 ∨ (fitE l s sl = 0 ∧ fitB l s sl = true) ∨ (fitE l s sl = 0 ∧ fitB l s sl = false ∧ (10000 < fitN l s sl ∨ (¬ 10000 < fitN l s sl ∧ 10000 < s)))) :
    Calls Try.prog 7 #[.slice a l.length ca, .agg #[.int .i64 s, .slice c sl.length cc]] w fun e w' => e = .returned (.bool true) ∧ Below w.heap.size w w' := by
  have H1 := hid (fun W (h : Below w.heap.size w W) => Fits_any a c ca cc l sl s W (hr.below h (Nat.le_refl _)) (hs.below h (Nat.le_refl _)))
  clear hr hs
  generalize fitE l s sl = E at *
  generalize fitN l s sl = N at *
  generalize fitB l s sl = B at *
  have hcase : (E != 0) = true ∨ ((E != 0) = false ∧ B = true) ∨ ((E != 0) = false ∧ B = false ∧ 10000 < N) ∨ ((E != 0) = false ∧ B = false ∧ ¬ 10000 < N ∧ 10000 < s) := by
    rcases h with h | ⟨h, h2⟩ | ⟨h, h2, h3 | ⟨h3, h4⟩⟩
    · exact .inl (by simpa using h)
    · exact .inr (.inl ⟨by simp [h], h2⟩)
    · exact .inr (.inr (.inl ⟨by simp [h], h2, h3⟩))
    · exact .inr (.inr (.inr ⟨by simp [h], h2, h3, h4⟩))
  clear h
  go_enter Try.func7, Try.ntmps7
  go_wp2_with fail
  refine (H1.out _ (PB.start w _).bel).mono ?_
  rintro e w1 ⟨rfl, b1⟩
  have B1 := hid ((PB.start w #[.int .i64 s, .slice c sl.length cc]).step b1)
  clear b1
  go_wp2_with fail
  refine (plives _).mono ?_
  rintro e w2 ⟨rfl, b2⟩
  have B2 := hid (B1.out.step b2)
  have x0 := box_cell B2.out.set 0
  have x1 := box_cell B2.out.set 1
  simp at x0 x1
  clear b2
  rcases hcase with g1 | ⟨g1, rfl⟩ | ⟨g1, rfl, g2⟩ | ⟨g1, rfl, g2, g3⟩
  all_goals
    go_wp2_with fail
    refine (plives _).mono ?_
    rintro e w3 ⟨rfl, b3⟩
    have B3 := hid (B2.out.step b3)
    clear b3 x0 x1
    go_wp2_with fail
    go_ret
    exact ⟨rfl, B3.out.bel⟩
set_option maxRecDepth 20000 in
set_option maxHeartbeats 4000000 in
theorem misses_ok (l : List Tk) (s : Int) (sl : List Sp) (a c : Option Addr) (ca cc : Nat) (w : World) (hr : Tks w a l) (hs : Sps w c sl)
    (hE : fitE l s sl = 0) (hB : fitB l s sl = false) (hN : ¬ 10000 < fitN l s sl) (hS : ¬ 10000 < s) :
    Calls Try.prog 7 #[.slice a l.length ca, .agg #[.int .i64 s, .slice c sl.length cc]] w fun e w' => e = .returned (.bool true) ∧ Below w.heap.size w w' := by
  obtain ⟨hk, hc, _⟩ := fitE_zero hE
  obtain ⟨s1, s2, s3, s4⟩ := chk_zero hc
  have hl16 := (tchk_zero hk).1
  have H1 := hid (fun W (h : Below w.heap.size w W) => Fits_any a c ca cc l sl s W (hr.below h (Nat.le_refl _)) (hs.below h (Nat.le_refl _)))
  have H2 := hid (fun W x T (b : Option Addr) (cb : Nat) (hf : Row W b (ats l.length x)) (h : Below w.heap.size w W) => late_any ⟨l, ats l.length x, s, sl, 1⟩ T a b c ca cb cc W (hr.below h (Nat.le_refl _)) hf (hs.below h (Nat.le_refl _)))
  simp only [ats_len] at H2
  have hN0 : 1 ≤ fitN l s sl := by
    rcases fit_cases hE with ⟨_, f, _⟩ | ⟨n1, _⟩
    · rw [f] at hB; simp at hB
    · exact n1
  have HSH := hid (some_hit hE hB)
  have HNH := hid (fun x (h1 : 0 ≤ x) (h2 : x ≤ 10000) h hn => no_hit (l := l) (s := s) (sl := sl) (by' := fitN l s sl) (at' := x) (by omega) (by omega) h1 h2 h hn)
  have HEB := hid (ends_bd s4 (by omega))
  have HES := hid (fun k (h : k < sl.length) => ends_succ sl h)
  have HEL := hid (fun k (h : k ≤ sl.length) => ends_len sl h)
  have HE0 := hid (ends_zero sl)
  have HSP := hid hs
  rw [hE, hB] at H1
  clear hr hs hE hB hk hc s1 s2 s4
  generalize fitN l s sl = N at *
  obtain ⟨i0, hi, hz0, hz1, hz2⟩ := info_parts infoInt
  have Hi := hid hi
  have Hz0 := hid hz0
  have Hz1 := hid hz1
  have Hz2 := hid hz2
  clear hi hz0 hz1 hz2
  go_enter Try.func7, Try.ntmps7
  go_wp2_with fail
  refine (H1.out _ (PB.start w _).bel).mono ?_
  rintro e w1 ⟨rfl, b1⟩
  have B1 := hid ((PB.start w #[.int .i64 s, .slice c sl.length cc]).step b1)
  clear b1
  go_wp2_with fail
  refine (plives _).mono ?_
  rintro e w2 ⟨rfl, b2⟩
  have B2 := hid (B1.out.step b2)
  have x0 := box_cell B2.out.set 0
  have x1 := box_cell B2.out.set 1
  simp at x0 x1
  have B3 := hid (B2.out.step ((Below.refl _ w2).alloc (Nat.le_refl _) (.cells #[.int .i64 0] 3)))
  have y0 := box_cell B3.out.set 0
  have y1 := box_cell B3.out.set 1
  simp at y0 y1
  have HO3 : Hid (OwnI (w2.alloc (.cells #[.int .i64 0] 3)) (w.heap.size + 1) (.slice (some ⟨w2.heap.size, 0, none⟩) 1 1) (ends sl 0)) := by
    show OwnI _ _ _ _
    rw [HE0.out]
    have := World.ownsRow_lit (base := w.heap.size + 1) (e := 3) (size := 1) w2 #[.int .i64 0] 1 B2.out.sz (by unfold maxLen; omega) rfl
    simpa [OwnI] using this
  clear b2
  go_wp2_with fail
  clear x0 x1 y0 y1
  go_loopw [8, 47] (fun v8 v47 wr => ∃ k : Nat, k ≤ sl.length ∧ v47 = .int .i64 k ∧ OwnI wr (w.heap.size + 1) v8 (ends sl k) ∧ PB w wr #[.int .i64 s, .slice c sl.length cc]) (fun _ v47 _ => sl.length - (intOf v47).toNat)
  case atStart => exact ⟨0, by omega, rfl, HO3.out, B3.out⟩
  case round =>
    obtain ⟨k, hk, rfl, ho, hb⟩ := hrel
    have B := hid hb
    have HO := hid ho
    by_cases hlt : k < sl.length
    · obtain ⟨p8, n8, c8, hv8⟩ := OwnI.slice ho
      subst hv8
      obtain ⟨pb, po, rfl, _, d1, d2⟩ := (HSP.out.below hb.bel (Nat.le_refl _)).at k hlt
      have HS := hid (HES.out k hlt)
      have HLEN := hid (HEL.out k hk)
      have hki : (k : Int) < (sl.length : Int) := by omega
      generalize sl.getD k (0, 0) = z at *
      obtain ⟨z0, z1⟩ := z
      simp only at d1 d2 HS
      have hsz := hb.sz
      clear ho hb
      generalize ends sl k = Z at *
      go_wp2_with (at_builtin; refine wpList_append_own _ rfl _ _ 26 rfl (w.heap.size + 1) 3 i0 (.int .i64 0) 1 8 Try.underlying26 Hi.out Hz0.out Hz1.out Hz2.out rfl (by decide) _ Z.length (Z.map (Value.int .i64)) rfl ?qc0 ⟨wr.heap.size + 1, 0, none⟩ 1 1 [.int .i64 z1] ?qcx ?qc1 ?qc2 ?qc3 ?qc4 ?qc5 ?qc6 ?_)
      case qc0 => exact World.ownsRow.alloc (World.ownsRow.alloc HO.out _) _
      case qcx => rfl
      case qc1 => rfl
      case qc2 =>
        intro j u hj
        match j, hj with
        | 0, hj => simp at hj; subst hj; exact World.cell?_alloc_at _ _ _ _ (by simp)
        | j + 1, hj => simp at hj
      case qc3 => intro u hu; simp at hu; subst hu; rfl
      case qc4 => have := HLEN.out; unfold maxLen; omega
      case qc5 => have := HLEN.out; omega
      case qc6 => have := HLEN.out; simp; omega
      intro v' w5 hown hgrow hnil
      have HO5 : Hid (OwnI w5 (w.heap.size + 1) v' (Z ++ [z1])) := by
        show World.ownsRow _ _ _ _ _ _ _
        simpa using hown
      have B5 := hid (PB.deep B.out (Below.grown (Below.alloc (Below.alloc (Below.refl (w.heap.size + 1) wr) hsz (.cells #[.int .i64 z0, .int .i64 z1] 63)) (by simp; omega) (.cells #[.int .i64 z1] 3)) hgrow (by simp; omega) (fun k hk => (World.ownsRow.lt HO.out k hk).1)) (Nat.le_refl _))
      clear hown hgrow hnil
      go_wp2_with fail
      go_roundw
      case rel => exact ⟨k + 1, by omega, by go_num, by rw [HS.out]; exact HO5.out, B5.out⟩
      case measure => simp [intOf]; omega
    · obtain rfl : k = sl.length := by omega
      have hlen := HEL.out _ (Nat.le_refl _)
      obtain ⟨ae, ce, hve, hre, _⟩ := ownI_row ho
      subst hve
      have RE := hid hre
      have HLE := hid hlen
      clear ho hb hre
      generalize ends sl sl.length = EL at *
      clear hlen
      go_wp2_with fail
      obtain ⟨w6, hw6⟩ : ∃ x, x = wr := ⟨_, rfl⟩
      subst hw6
      go_loopw [59] (fun v59 wr => ∃ k : Nat, k ≤ EL.length ∧ v59 = .int .i64 k ∧ Row wr ae EL ∧ PB w wr #[.int .i64 s, .slice c sl.length cc] ∧ Hid (∀ x ∈ EL.take k, ¬ Hit l s sl N x)) (fun v59 _ => EL.length - (intOf v59).toNat)
      case atStart => exact ⟨0, by omega, rfl, RE.out, B.out, (by intro x hx; simp at hx)⟩
      case round =>
        obtain ⟨k, hk, rfl, hre, hb, hH⟩ := hrel
        have B6 := hid hb
        have R6 := hid hre
        by_cases hlt : k < EL.length
        · obtain ⟨pe, oe, rfl, _, d1⟩ := Row.at hre k hlt
          obtain ⟨x1, x2⟩ := HEB.out _ (in_mem hlt)
          have hd := in_snoc EL k hlt
          have hEL : EL.length ≤ 300 := by have := HLE.out; omega
          have hki : (k : Int) < (EL.length : Int) := by omega
          have hxs : EL.getD k 0 ≤ 10000 := by omega
          have HNX := hid (HNH.out _ x1 hxs)
          have H2X := hid (fun W T b cb hf h => H2.out W (EL.getD k 0) T b cb hf h)
          generalize EL.getD k 0 = x at *
          have HD := hid hd
          have hsz := hb.sz
          have HSZ := hid hsz
          clear hre hb hd
          go_wp2_with (at_make; refine wpList_make_full _ rfl _ _ 26 rfl (w.heap.size + 1) 3 i0 (.int .i64 0) 1 Try.underlying26 Hi.out Hz0.out Hz1.out _ _ _ _ l.length rfl rfl ?qd1 ?qd2 ?qd3 ?qd4 ?qd5 ?_)
          case qd1 => rfl
          case qd2 => rfl
          case qd3 => rw [Hz2.out]; omega
          case qd4 => unfold maxLen; omega
          case qd5 => exact HSZ.out
          intro w7 hown hgrow
          have HO7 : Hid (OwnI w7 (w.heap.size + 1) (.slice (some ⟨wr.heap.size, 0, none⟩) l.length l.length) (fill l.length x 0)) := by
            show OwnI _ _ _ _
            rw [fill_zero]
            exact ownI_made hown
          have hb7 : Below wr.heap.size wr w7 := Below.grown (Below.refl _ _) hgrow (Nat.le_refl _) (fun k hk => by simp at hk)
          have B7 := hid (B6.out.step hb7)
          have R7 := hid (Row.below R6.out hb7 (Nat.le_refl _))
          have HG := hid hsz
          have HGE : Hid (∀ q, (some ⟨pe, oe, none⟩ : Option Addr) = some q → q.block < wr.heap.size) := by
            intro q hq
            injection hq with hq
            subst hq
            show pe < _
            exact World.block_lt_of_cell? _ ⟨pe, oe + k, none⟩ d1
          clear hown hgrow d1 hsz hb7
          generalize wr.heap.size = g at *
          have hg : w.heap.size + 1 ≤ g := HG.out
          have HFS := hid (fun k => fill_set l.length x k)
          have HFL := hid (fun k => fill_len l.length x k)
          have HFA := hid (fill_all l.length x)
          generalize fill l.length x = FL at *
          go_wp2_with fail
          obtain ⟨w8, hw8⟩ : ∃ x, x = w7 := ⟨_, rfl⟩
          go_loopw [68] (fun v68 wr => ∃ j : Nat, j ≤ l.length ∧ v68 = .int .i64 j ∧ OwnI wr (w.heap.size + 1) (.slice (some ⟨g, 0, none⟩) l.length l.length) (FL j) ∧ Row wr (some ⟨pe, oe, none⟩) EL ∧ PB w wr #[.int .i64 s, .slice c sl.length cc]) (fun v68 _ => l.length - (intOf v68).toNat)
          case atStart => exact ⟨0, by omega, rfl, HO7.out, R7.out, B7.out⟩
          case round =>
            obtain ⟨j, hj, rfl, ho, hre, hb⟩ := hrel
            have B8 := hid hb
            have HO8 := hid ho
            have R8 := hid hre
            by_cases hjl : j < l.length
            · have y0 := OwnI.cell ho j (by rw [HFL.out]; exact hjl)
              have y1 := ownI_frozen ho (by rw [HFL.out]) j
              have HST := hid (ownI_set ho (by rw [HFL.out]) j x)
              have hji : (j : Int) < (l.length : Int) := by omega
              clear ho hre hb
              go_wp2_with fail
              obtain ⟨o9, g9⟩ := HST.out
              rw [HFS.out] at o9
              have B9 := hid (B8.out.row g9 (fun k hk => by simp at hk; omega))
              have R9 : Row (wr.setCell ⟨g, j, none⟩ (.int .i64 x)) (some ⟨pe, oe, none⟩) EL := by
                rcases R8.out with h | ⟨b, off, e1, h⟩
                · exact .inl h
                · refine .inr ⟨b, off, e1, fun i hi => ?_⟩
                  have hlt9 := HGE.out ⟨b, off, none⟩ e1
                  exact g9.cell (h i hi) (by simp at hlt9 ⊢; omega)
              clear y0 y1 g9
              go_roundw
              case rel => exact ⟨j + 1, by omega, by go_num, o9, R9, B9.out⟩
              case measure => simp [intOf]; omega
            · obtain rfl : j = l.length := by omega
              have x0 := box_cell B8.out.set 0
              have x1' := box_cell B8.out.set 1
              simp at x0 x1'
              have HRF := hid (show Row wr (some ⟨g, 0, none⟩) (ats l.length x) by
                rw [← HFA.out]
                exact .inr ⟨g, 0, rfl, fun i hi => by rw [Nat.zero_add]; exact OwnI.cell HO8.out i hi⟩)
              have HLT := hid (H2X.out wr (min (x + N) 20000) _ l.length HRF.out B8.out.bel)
              clear ho hre hb
              go_wp2_with fail
              refine HLT.out.mono ?_
              rintro e w9 ⟨⟨n, q, rfl, q1, q2⟩, b9⟩
              have B9 := hid (B8.out.step b9)
              have R9 := hid (Row.below R8.out b9 (Nat.le_refl _))
              clear x0 x1' b9
              have hq : q = false ∨ (q = true ∧ 0 < n) ∨ (q = true ∧ n = 0 ∧ ¬ Hit l s sl N x) := by
                by_cases hE : plE ⟨l, ats l.length x, s, sl, 1⟩ (min (x + N) 20000) = 0
                · obtain ⟨e1, e2⟩ := q2 hE
                  by_cases h0 : n = 0
                  · exact .inr (.inr ⟨e1, h0, HNX.out hE (by omega)⟩)
                  · exact .inr (.inl ⟨e1, by omega⟩)
                · exact .inl (q1 hE)
              clear q1 q2
              rcases hq with rfl | ⟨rfl, hn⟩ | ⟨rfl, rfl, hnh⟩
              · go_wp2_with fail
                go_ret
                exact ⟨rfl, B9.out.bel⟩
              · have hn' : (0 : Int) < (n : Int) := by omega
                go_wp2_with fail
                go_ret
                exact ⟨rfl, B9.out.bel⟩
              · have HH : Hid (∀ y ∈ EL.take (k + 1), ¬ Hit l s sl N y) := by
                  intro y hy
                  rw [HD.out] at hy
                  rcases List.mem_append.1 hy with hy | hy
                  · exact hH.out y hy
                  · simp at hy; subst hy; exact hnh
                clear hnh
                go_wp2_with fail
                go_roundw
                case rel => exact ⟨k + 1, by omega, by go_num, R9.out, B9.out, HH⟩
                case measure => simp [intOf]; omega
        · exfalso
          obtain ⟨x, hx, hh⟩ := HSH.out
          have := hH.out
          rw [List.take_of_length_le (by omega)] at this
          exact this x hx hh
theorem playMisses_walk (a0 : Option Addr) (len0 cap0 : Nat) (l0 : List TaskM.Tk) (s1 : Int) (a1 : Option Addr) (len1 cap1 : Nat) (l1 : List Sp) (w : World)
    (w0 : RowsO.IsTks w a0 len0 cap0 l0) (x1 : SpanC.wf64 s1) (w1 : SpanC.IsSps w a1 len1 cap1 l1) :
    Calls Try.prog 7 #[.slice a0 len0 cap0, .agg #[.int .i64 s1, .slice a1 len1 cap1]] w fun e w' => e = .returned (.bool true) ∧ Below w.heap.size w w' := by
  obtain ⟨rfl, _, _, hr, _⟩ := w0
  obtain ⟨rfl, _, _, hs, _⟩ := w1
  by_cases hE : fitE l0 s1 l1 = 0
  · cases hB : fitB l0 s1 l1 with
    | true => exact misses_err l0 s1 l1 a0 a1 cap0 cap1 w hr hs (.inr (.inl ⟨hE, hB⟩))
    | false =>
      by_cases hN : 10000 < fitN l0 s1 l1
      · exact misses_err l0 s1 l1 a0 a1 cap0 cap1 w hr hs (.inr (.inr ⟨hE, hB, .inl hN⟩))
      · by_cases hS : 10000 < s1
        · exact misses_err l0 s1 l1 a0 a1 cap0 cap1 w hr hs (.inr (.inr ⟨hE, hB, .inr ⟨hN, hS⟩⟩))
        · exact misses_ok l0 s1 l1 a0 a1 cap0 cap1 w hr hs hE hB hN hS
  · exact misses_err l0 s1 l1 a0 a1 cap0 cap1 w hr hs (.inl hE)
end PlayC
end Go.Proofs.Ytpnahhpkaegeeaa
