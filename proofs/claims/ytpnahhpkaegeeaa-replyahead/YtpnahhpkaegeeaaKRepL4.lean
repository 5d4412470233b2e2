/- Several texts, one behind the other: RepL4. -/
import Derived.Test.YtpnahhpkaegeeaaKRepL1
import Derived.Test.YtpnahhpkaegeeaaKTskM2
import Derived.Deep.RegionWith
/- The walk of ReplyAhead. -/
set_option linter.unusedVariables false
namespace Go.Proofs.Ytpnahhpkaegeeaa
open Go.RowKit hiding tok
open SpanM SupM SpanC TaskM PlayM RankM
open RowsO hiding Tk
namespace RepC
open TaskC (tchk tchkG tchk_zero tchk_of tcheck_any tk_snoc tk_mem own_some own_long own_cells)
open NumC (Row)
open PlayC (Row.below box_cell box_alloc box_new box_below PB)
theorem tks_take {w : World} {a : Option Addr} {l : List Tk} (h : Tks w a l) (n : Nat) : Tks w a (l.take n) := by
  rcases h with rfl | ⟨b, off, rfl, h⟩
  · exact .inl (by simp)
  · refine .inr ⟨b, off, rfl, fun i hi => ?_⟩
    rw [List.length_take] at hi
    have e : (l.take n).getD i zTk = l.getD i zTk := by simp [List.getD, show i < n by omega]
    rw [e]
    exact h i (by omega)
theorem tk_cut (l : List Tk) (k : Nat) (h : k < l.length) : l = l.take k ++ l.getD k zTk :: l.drop (k + 1) := by
  have e : l.getD k zTk = l[k] := by simp [List.getD, h]
  rw [e, ← List.drop_eq_getElem_cons h, List.take_append_drop]
theorem rpl_ok {l : List Tk} {i : Nat} {size : Int} {sl : List Sp} (h : rchk l size sl = 0) (hi : i < l.length) (hr : repV l i size sl ≠ 0) : rplE l i size sl = 0 ∧ rplV l i size sl = repV l i size sl := by
  unfold rplE rplV
  rw [if_pos h, if_pos ⟨by omega, by omega⟩, if_pos ⟨h, by omega, by omega⟩, Int.toNat_natCast]
  exact ⟨repE_some hr, rfl⟩
theorem rpl_zero {l : List Tk} {i size : Int} {sl : List Sp} (h : rplE l i size sl = 0) : ∃ n : Nat, i = n ∧ n < l.length ∧ rchk l size sl = 0 ∧ rplV l i size sl = repV l n size sl ∧ repV l n size sl ≠ 0 := by
  have h1 : rchk l size sl = 0 := by
    by_cases c : rchk l size sl = 0
    · exact c
    · unfold rplE at h
      rw [if_neg c] at h
      exact absurd h c
  unfold rplE at h
  rw [if_pos h1] at h
  by_cases c : 0 ≤ i ∧ i < l.length
  · rw [if_pos c] at h
    refine ⟨i.toNat, by omega, by omega, h1, ?_, fun hz => ?_⟩
    · unfold rplV; rw [if_pos ⟨h1, c⟩]
    · rw [repE_none hz] at h; omega
  · rw [if_neg c] at h; omega
theorem rchk_of {l l' : List Tk} {size : Int} {sl : List Sp} (h : rchk l size sl = 0) (h1 : l'.length ≤ 16) (h2 : ∀ x ∈ l', tok x) : rchk l' size sl = 0 := by
  unfold rchk
  rw [if_pos (tchk_of h1 h2)]
  exact (rchk_zero h).2
variable {p q : List Tk} {x : Tk} {size : Int} {sl : List Sp}
theorem cut_take (p q : List Tk) (x : Tk) (j : Nat) : (p ++ x :: q).take (p.length + 1 + j) = p ++ x :: q.take j := by
  rw [show p.length + 1 + j = p.length + (j + 1) by omega, List.take_length_add_append, List.take_succ_cons]
theorem cut_get (p q : List Tk) (x : Tk) (j : Nat) : (p ++ x :: q).getD (p.length + 1 + j) zTk = q.getD j zTk := by
  rw [show p.length + 1 + j = p.length + (j + 1) by omega]
  simp [List.getD, List.getElem?_append_right]
theorem del_take (p q : List Tk) (j : Nat) : (p ++ q).take (p.length + j) = p ++ q.take j := List.take_length_add_append j
theorem del_get (p q : List Tk) (j : Nat) : (p ++ q).getD (p.length + j) zTk = q.getD j zTk := by simp [List.getD, List.getElem?_append_right]
/-- the front alone -/
theorem front_rep (l : List Tk) (i : Nat) (hi : i < l.length) : repV (l.take (i + 1)) i size sl = repV l i size sl := by
  unfold repV
  rw [List.take_take, Nat.min_eq_left (by omega)]
  congr 1
  simp [List.getD]
/-- one less ahead -/
theorem del_rep (hp : ∀ y ∈ p ++ x :: q, tok y) (j : Nat) (h : repV (p ++ x :: q) (p.length + 1 + j) size sl ≠ 0) : repV (p ++ q) (p.length + j) size sl ≠ 0 ∧ repV (p ++ q) (p.length + j) size sl ≤ repV (p ++ x :: q) (p.length + 1 + j) size sl := by
  unfold repV at *
  rw [cut_take, cut_get] at *
  rw [del_take, del_get]
  refine rep_le (fun n hn => ?_) h
  have := term_nonneg (hp x (by simp)) hn
  unfold need
  rw [ahead_append, ahead_append]
  simp only [RankM.ahead]
  omega
/-- one that needs less -/
theorem set_rep {y : Tk} (hp : ∀ z ∈ p ++ x :: q, tok z) (hy : y.2.1 = x.2.1) (hl : y.1 ≤ x.1) (j : Nat) (h : repV (p ++ x :: q) (p.length + 1 + j) size sl ≠ 0) : repV (p ++ y :: q) (p.length + 1 + j) size sl ≠ 0 ∧ repV (p ++ y :: q) (p.length + 1 + j) size sl ≤ repV (p ++ x :: q) (p.length + 1 + j) size sl := by
  unfold repV at *
  rw [cut_take, cut_get] at *
  rw [cut_take, cut_get]
  refine rep_le (fun n hn => ?_) h
  have hx := hp x (by simp)
  have := up_pos hn hx.1
  have c : up n x.2.1 * y.1 ≤ up n x.2.1 * x.1 := Int.mul_le_mul_of_nonneg_left hl (by omega)
  unfold need
  rw [ahead_append, ahead_append]
  simp only [RankM.ahead]
  rw [hy]
  omega
theorem own_rows {w : World} {B g n cap : Nat} {l : List Tk} (h : OwnTk w B (.slice (some ⟨g, 0, none⟩) n cap) l) : Tks w (some ⟨g, 0, none⟩) l ∧ l.length ≤ cap := by
  obtain ⟨a, c, e, hr⟩ := h.rows
  injection e with e1 e2 e3
  subst e1
  refine ⟨hr, ?_⟩
  rcases h.form with ⟨e, _⟩ | ⟨g', c', e, _, _, h1, _⟩
  · simp at e
  · injection e with e1 e2 e4
    omega
theorem PB.step2 {w wi wj : World} {vs : Array Value} {B : Nat} (h : PB w wi vs) (hb : Below B wi wj) (hB : w.heap.size + 1 ≤ B) : PB w wj vs := by
  have hlt := (Array.getElem?_eq_some_iff.1 h.set).1
  refine ⟨h.bel.trans (hb.mono (by omega)), Nat.le_trans h.sz hb.size, ?_⟩
  rw [hb.block _ (by omega)]
  exact h.set
set_option maxRecDepth 20000 in
set_option maxHeartbeats 1600000 in
theorem ahead_odd (l : List Tk) (i k : Int) (s : Int) (sl : List Sp) (a c : Option Addr) (ca cc : Nat) (w : World) (hr : Tks w a l) (hs : Sps w c sl) (hca : l.length ≤ ca) (h : rplE l i s sl ≠ 0 ∨ (rplE l i s sl = 0 ∧ (k < 0 ∨ (¬ k < 0 ∧ i ≤ k)))) :
    Calls Try.prog 12 #[.slice a l.length ca, .int .i64 i, .int .i64 k, .agg #[.int .i64 s, .slice c sl.length cc]] w fun e w' => e = .returned (.bool true) ∧ Below w.heap.size w w' := by
  have H1 := hid (fun W (h : Below w.heap.size w W) => Reply_any l i s sl a c ca cc W (hr.below h (Nat.le_refl _)) (hs.below h (Nat.le_refl _)) hca)
  clear hr hs
  generalize rplE l i s sl = E at *
  generalize rplV l i s sl = V at *
  have hcase : (E != 0) = true ∨ ((E != 0) = false ∧ k < 0) ∨ ((E != 0) = false ∧ ¬ k < 0 ∧ i ≤ k) := by
    rcases h with h | ⟨h, h2 | h2⟩
    · exact .inl (by simpa using h)
    · exact .inr (.inl ⟨by simp [h], h2⟩)
    · exact .inr (.inr ⟨by simp [h], h2⟩)
  clear h
  go_enter Try.func12, Try.ntmps12
  go_wp2_with fail
  refine (H1.out _ (PB.start w _).bel).mono ?_
  rintro e w1 ⟨rfl, b1⟩
  have B1 := hid ((PB.start w #[.int .i64 s, .slice c sl.length cc]).step b1)
  clear b1
  go_wp2_with fail
  refine (rlives _).mono ?_
  rintro e w2 ⟨rfl, b2⟩
  have B2 := hid (B1.out.step b2)
  clear b2
  rcases hcase with g1 | ⟨g1, g2⟩ | ⟨g1, g2, g3⟩
  all_goals
    go_wp2_with fail
    refine (rlives _).mono ?_
    rintro e w3 ⟨rfl, b3⟩
    have B3 := hid (B2.out.step b3)
    clear b3
    go_wp2_with fail
    go_ret
    exact ⟨rfl, B3.out.bel⟩
set_option maxRecDepth 20000 in
set_option maxHeartbeats 1000000 in
theorem ahead_ok (p q : List Tk) (x0 y0 z0 : Int) (l : List Tk) (kn j i : Nat) (s : Int) (sl : List Sp) (a c : Option Addr) (ca cc : Nat) (w : World) (hr : Tks w a l) (hs : Sps w c sl) (az : a = none → ca = 0) (hca : l.length ≤ ca)
    (hl : l = p ++ (x0, y0, z0) :: q) (hp : p.length = kn) (hi : i = kn + 1 + j) (hj : j < q.length) (hk : rchk l s sl = 0) (hv : repV l i s sl ≠ 0) :
    Calls Try.prog 12 #[.slice a l.length ca, .int .i64 i, .int .i64 kn, .agg #[.int .i64 s, .slice c sl.length cc]] w fun e w' => e = .returned (.bool true) ∧ Below w.heap.size w w' := by
  obtain ⟨hk1, hk2⟩ := rchk_zero hk
  obtain ⟨hlen, htok⟩ := tchk_zero hk1
  have hll : l.length = kn + 1 + q.length := by rw [hl, ← hp]; simp; omega
  have hil : i < l.length := by omega
  -- the whole
  have H1 := hid (fun W (h : Below w.heap.size w W) => Reply_any l i s sl a c ca cc W (hr.below h (Nat.le_refl _)) (hs.below h (Nat.le_refl _)) hca)
  obtain ⟨e1, e2⟩ := rpl_ok hk hil hv
  rw [e1, e2] at H1
  -- the front
  have H2 := hid (fun W (h : Below w.heap.size w W) => Reply_any (l.take (i + 1)) i s sl a c ca cc W (tks_take (hr.below h (Nat.le_refl _)) _) (hs.below h (Nat.le_refl _)) (by rw [List.length_take]; omega))
  have hk3 := rchk_of (l' := l.take (i + 1)) hk (by rw [List.length_take]; omega) (fun y hy => htok y (List.mem_of_mem_take hy))
  obtain ⟨e3, e4⟩ := rpl_ok (i := i) hk3 (by rw [List.length_take]; omega) (by rw [front_rep l i hil]; exact hv)
  have hlt : (l.take (i + 1)).length = i + 1 := by rw [List.length_take]; omega
  rw [e3, e4, front_rep l i hil, hlt] at H2
  -- one less
  have hv' : repV (p ++ (x0, y0, z0) :: q) (p.length + 1 + j) s sl ≠ 0 := by rw [← hl, hp, ← hi]; exact hv
  have htok' : ∀ y ∈ p ++ (x0, y0, z0) :: q, tok y := by rw [← hl]; exact htok
  obtain ⟨d1, d2⟩ := del_rep htok' j hv'
  have hk4 := rchk_of (l' := p ++ q) hk (by rw [List.length_append]; omega) (fun y hy => htok y (by rw [hl]; simp at hy ⊢; rcases hy with h | h <;> simp [h]))
  obtain ⟨e5, e6⟩ := rpl_ok (i := p.length + j) hk4 (by rw [List.length_append]; omega) d1
  have hpi : ((p.length + j : Nat) : Int) = (i : Int) - 1 := by omega
  rw [hpi] at e5 e6
  have H3 := hid (fun b cp W (h : Tks W b (p ++ q)) (hc : (p ++ q).length ≤ cp) (h' : Below w.heap.size w W) => Reply_any (p ++ q) ((i : Int) - 1) s sl b c cp cc W h (hs.below h' (Nat.le_refl _)) hc)
  rw [e5, e6] at H3
  have D2 : repV (p ++ q) (p.length + j) s sl ≤ repV l i s sl := by rw [hl, hi, ← hp]; exact d2
  -- one that needs less
  have hx0 := htok (x0, y0, z0) (by rw [hl]; simp)
  obtain ⟨t1, t2, t3, t4, t5, t6⟩ := hx0
  simp only at t1 t2 t3 t4 t5 t6
  obtain ⟨g1, g2⟩ := set_rep (y := (1, y0, z0)) htok' rfl t5 j hv'
  have hk5 := rchk_of (l' := p ++ (1, y0, z0) :: q) hk (by simp; omega) (fun y hy => by
    simp at hy
    rcases hy with hy | rfl | hy
    · exact htok y (by rw [hl]; simp [hy])
    · exact ⟨t1, t2, t3, t4, by simp, by simp only; omega⟩
    · exact htok y (by rw [hl]; simp [hy]))
  obtain ⟨e7, e8⟩ := rpl_ok (i := p.length + 1 + j) hk5 (by simp; omega) g1
  have hpi2 : p.length + 1 + j = i := by omega
  rw [hpi2] at e7 e8
  have H4 := hid (fun b cp W (h : Tks W b (p ++ (1, y0, z0) :: q)) (hc : (p ++ (1, y0, z0) :: q).length ≤ cp) (h' : Below w.heap.size w W) => Reply_any (p ++ (1, y0, z0) :: q) i s sl b c cp cc W h (hs.below h' (Nat.le_refl _)) hc)
  have hlq : (p ++ (1, y0, z0) :: q).length = l.length := by rw [hl]; simp
  rw [e7, e8, hlq] at H4
  have D3 : repV (p ++ (1, y0, z0) :: q) i s sl ≤ repV l i s sl := by rw [hl, ← hpi2]; exact g2
  have HC := hid (fun W (h : Below w.heap.size w W) => cloneTk_any a ca l W (hr.below h (Nat.le_refl _)) az (by unfold maxLen; omega) (by omega))
  have HD := hid (fun B g c W (h : OwnTk W B (.slice (some ⟨g, 0, none⟩) l.length c) l) (hB : B ≤ W.heap.size) => deleteTk_any B g c p q (x0, y0, z0) W (by rw [← hl]; exact h) hB (by rw [← hl]; omega))
  rw [← hl, hp] at HD
  have HR := hid hr
  have HLP := hid hl
  have HP := hid hp
  have HLQ := hid hlq
  have HG : Hid (l.getD kn zTk = (x0, y0, z0)) := by
    show _ = _
    rw [hl, ← hp]; simp [List.getD]
  have HPQ := hid (show (p ++ q).length = l.length - 1 by rw [List.length_append]; omega)
  obtain ⟨K1, hK1⟩ : ∃ K1, K1 = (p ++ q).length := ⟨_, rfl⟩
  rw [← hK1] at HD H3
  have HK1 := hid hK1
  have hLL := hid hll
  have hkl : kn < l.length := by omega
  have i1 : ¬ (kn : Int) < 0 := by omega
  have i2 : ¬ (i : Int) ≤ (kn : Int) := by omega
  have i2' : ¬ i ≤ kn := by omega
  have i3 : (kn : Int) < (l.length : Int) := by omega
  have i4 : i + 1 ≤ ca := by omega
  have i5 : (0 : Int) ≤ (i : Int) + 1 := by omega
  have i6 : (i : Int) + 1 ≤ (ca : Int) := by omega
  have hl0 : 0 < l.length := by omega
  clear hi
  clear hr hs hk hv hl hp hlq e1 e2 e3 e4 e5 e6 e7 e8 d1 d2 g1 g2 hv' htok htok' az hk1 hk2 hk3 hk4 hk5 hK1 hlt hpi hpi2 t1 t2 t3 t4 t5 t6 hll
  generalize repV l i s sl = V1 at *
  generalize repV (p ++ q) (p.length + j) s sl = V2 at *
  generalize repV (p ++ (1, y0, z0) :: q) i s sl = V3 at *
  go_enter Try.func12, Try.ntmps12
  go_wp2_with fail
  refine (H1.out _ (PB.start w _).bel).mono ?_
  rintro e w1 ⟨rfl, b1⟩
  have B1 := hid ((PB.start w #[.int .i64 s, .slice c sl.length cc]).step b1)
  clear b1
  go_wp2_with fail
  refine (rlives _).mono ?_
  rintro e w2 ⟨rfl, b2⟩
  have B2 := hid (B1.out.step b2)
  clear b2
  go_wp2_with fail
  have y1 := box_cell B2.out.set 0
  have y2 := box_cell B2.out.set 1
  simp at y1 y2
  have p0 := BelowOf.cell y1
  have p1 := BelowOf.cell y2
  refine wp_region_quiet_below (by kernel_rfl) (by kernel_rfl) ?_
  repeat (first | go_big_quiet_step (first | (go_at_call 25; rename_i pp; exact Calls.below_of pp (H2.out _ (bel_of B2.out.bel pp.hb)))) | quiet_step (first | (go_at_call 25; rename_i pp; exact Calls.below_of pp (H2.out _ (bel_of B2.out.bel pp.hb)))))
  refine wpQuiet_nil ?_
  rintro w3 ⟨pp, hpp⟩
  have b3 := pp.hb
  rw [← hpp] at b3
  have B3 := hid (B2.out.step b3)
  clear hpp pp p0 p1 b3 y1 y2
  go_wp2_with fail
  have y1 := box_cell B3.out.set 0
  have y2 := box_cell B3.out.set 1
  simp at y1 y2
  have B3d := hid (B3.out.step ((Below.refl _ _).drew))
  have wr1 : IntKind.i64.wrap ((kn : Int) + 1) = (kn : Int) + 1 := by rw [IntKind.wrap_i64]; omega
  have wr2 : IntKind.i64.wrap ((i : Int) - 1) = (i : Int) - 1 := by rw [IntKind.wrap_i64]; omega
  go_region_with (first | (go_at_call 39; refine (HC.out _ B3d.out.bel).mono ?_; rintro e w4 ⟨⟨v4, rfl, ho4⟩, b4⟩; have B4 : Hid (PB w w4 #[.int .i64 s, .slice c sl.length cc]) := B3d.out.step b4; have HZ4 := hid b4.size; obtain ⟨g4, cp4, rfl, gb4, gl4⟩ := own_some ho4 hl0; have HO4 := hid ho4; have x1 := box_cell B4.out.set 0; have x2 := box_cell B4.out.set 1; simp at x1 x2; clear ho4 b4) | (go_at_call 38; refine (HD.out _ _ _ _ HO4.out HZ4.out).mono ?_; rintro e w5 ⟨rfl, ho5, b5⟩; have B5 : Hid (PB w w5 #[.int .i64 s, .slice c sl.length cc]) := PB.step2 B4.out b5 B3d.out.sz; have HR5 := hid (own_rows ho5); have HC5 := hid (HK1.out ▸ HR5.out.2 : K1 ≤ cp4); have x3 := box_cell B5.out.set 0; have x4 := box_cell B5.out.set 1; simp at x3 x4; clear ho5 b5) | (go_at_call 25; refine (H3.out _ _ _ HR5.out.1 HC5.out B5.out.bel).mono ?_; rintro e w6 ⟨rfl, b6⟩; have B6 : Hid (PB w w6 #[.int .i64 s, .slice c sl.length cc]) := B5.out.step b6; clear b6))
  all_goals
    clear y1 y2 x1 x2 x3 x4
    go_wp2_with fail
    refine (HC.out _ B6.out.bel).mono ?_
    rintro e w7 ⟨⟨v7, rfl, ho7⟩, b7⟩
    have B7 := hid (B6.out.step b7)
    obtain ⟨g7, cp7, rfl, gb7, gl7⟩ := own_some ho7 hl0
    have hs6 : w.heap.size + 1 ≤ w6.heap.size := B6.out.sz
    obtain ⟨⟨k1, k2, k3⟩, k4⟩ := own_cells ho7 rfl kn hkl
    rw [HG.out] at k1 k2 k3
    simp only at k1 k2 k3
    have k4' := k4 (kn * 3)
    have ho7' : OwnTk w7 w6.heap.size (.slice (some ⟨g7, 0, none⟩) l.length cp7) (p ++ (x0, y0, z0) :: q) := by
      have := ho7
      generalize l.length = N at *
      rw [← HLP.out]; exact this
    have HS8 := own_long (v := 1) ho7' (by rw [← HLP.out])
    rw [HP.out] at HS8
    have HW8 := hid HS8
    have B8 := hid (PB.row B7.out HS8.2 (fun k hk => by simp at hk; omega))
    have HR8 := hid (own_rows HS8.1)
    have x0' := box_cell B8.out.set 0
    have x1' := box_cell B8.out.set 1
    simp at x0' x1'
    have x0 := box_cell B7.out.set 0
    have x1 := box_cell B7.out.set 1
    simp at x0 x1
    clear ho7 ho7' HS8 k4 b7 k2 k3
    go_wp2_with fail
    refine (H4.out _ _ _ HR8.out.1 (HLQ.out ▸ HR8.out.2) B8.out.bel).mono ?_
    rintro e w9 ⟨rfl, b9⟩
    have B9 := hid (B8.out.step b9)
    clear b9 x0 x1 x0' x1' k1 k4'
    go_wp2_with fail
    go_ret
    exact ⟨by first | rfl | simp, B9.out.bel⟩
theorem replyAhead_walk (a0 : Option Addr) (len0 cap0 : Nat) (l0 : List TaskM.Tk) (n1 n2 : Int) (s3 : Int) (a3 : Option Addr) (len3 cap3 : Nat) (l3 : List Sp) (w : World)
    (w0 : RowsO.IsTks w a0 len0 cap0 l0) (w1 : SpanC.wf64 n1) (w2 : SpanC.wf64 n2) (x3 : SpanC.wf64 s3) (w3 : SpanC.IsSps w a3 len3 cap3 l3) :
    Calls Try.prog 12 #[.slice a0 len0 cap0, .int .i64 n1, .int .i64 n2, .agg #[.int .i64 s3, .slice a3 len3 cap3]] w fun e w' => e = .returned (.bool true) ∧ Below w.heap.size w w' := by
  obtain ⟨rfl, hc, hcm, hr, haz, _⟩ := w0
  obtain ⟨rfl, _, _, hs, _⟩ := w3
  by_cases hE : rplE l0 n1 s3 l3 = 0
  · by_cases h1 : n2 < 0
    · exact ahead_odd l0 n1 n2 s3 l3 a0 a3 cap0 cap3 w hr hs hc (.inr ⟨hE, .inl h1⟩)
    · by_cases h2 : n1 ≤ n2
      · exact ahead_odd l0 n1 n2 s3 l3 a0 a3 cap0 cap3 w hr hs hc (.inr ⟨hE, .inr ⟨h1, h2⟩⟩)
      · obtain ⟨i, rfl, hi, hk, _, hv⟩ := rpl_zero hE
        obtain ⟨kn, rfl⟩ : ∃ kn : Nat, n2 = kn := ⟨n2.toNat, by omega⟩
        exact ahead_ok (l0.take kn) (l0.drop (kn + 1)) (l0.getD kn zTk).1 (l0.getD kn zTk).2.1 (l0.getD kn zTk).2.2 l0 kn (i - kn - 1) i s3 l3 a0 a3 cap0 cap3 w hr hs (fun h => (haz h).2) hc (tk_cut l0 kn (by omega)) (by rw [List.length_take]; omega) (by omega) (by rw [List.length_drop]; omega) hk hv
  · exact ahead_odd l0 n1 n2 s3 l3 a0 a3 cap0 cap3 w hr hs hc (.inl hE)
end RepC
end Go.Proofs.Ytpnahhpkaegeeaa
