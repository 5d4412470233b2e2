/- Several texts, one behind the other: RepL3. -/
import Derived.Test.YtpnahhpkaegeeaaKRepL2
import Derived.Test.YtpnahhpkaegeeaaKIdE
import Derived.Deep.OwnRows
import Derived.Deep.RegionWith
/- The walk of ReplyExact (written by gen_rx.py). -/
set_option linter.unusedVariables false
namespace Go.Proofs.Ytpnahhpkaegeeaa
open Go.RowKit hiding tok
open SpanM SupM SpanC TaskM PlayM RankM
open RowsO hiding Tk
namespace RepC
open TaskC (tchk tchkG tchk_zero tchk_bd tcheck_any tk_snoc tk_mem)
open NumC (Row)
open RowG
open PlayC (Row.below box_cell box_alloc box_new box_below plE plE_rt' play_any plD plN ED OwnD exAt exq ex_index)
/-- the variable's box, the spans, the set's box -/
structure XB (w wr : World) (i : Int) : Prop where
  bel : Below w.heap.size w wr
  sz : w.heap.size + 3 ≤ wr.heap.size
  b0 : wr.heap[w.heap.size]? = some (.cells #[.int .i64 i] 3)
  b1 : wr.heap[w.heap.size + 1]? = some (.cells #[.int .i64 0, .int .i64 1] 63)
  b2 : wr.heap[w.heap.size + 2]? = some (.cells #[.int .i64 1, .slice (some ⟨w.heap.size + 1, 0, none⟩) 1 1] 25)
def xw (w : World) (i : Int) : World := ((w.alloc (.cells #[.int .i64 i] 3)).alloc (.cells #[.int .i64 0, .int .i64 1] 63)).alloc (.cells #[.int .i64 1, .slice (some ⟨w.heap.size + 1, 0, none⟩) 1 1] 25)
theorem XB.start (w : World) (i : Int) : XB w (xw w i) i := by
  unfold xw
  refine ⟨?_, ?_, ?_, ?_, ?_⟩
  · exact (((Below.refl _ w).alloc (Nat.le_refl _) _).alloc (by rw [World.size_alloc]; omega) _).alloc (by rw [World.size_alloc, World.size_alloc]; omega) _
  · rw [World.size_alloc, World.size_alloc, World.size_alloc]; omega
  · exact box_alloc (box_alloc (box_new w _ _) _) _
  · have := box_alloc (box_new (w.alloc (.cells #[.int .i64 i] 3)) #[.int .i64 0, .int .i64 1] 63) (.cells #[.int .i64 1, .slice (some ⟨w.heap.size + 1, 0, none⟩) 1 1] 25)
    rw [World.size_alloc] at this
    exact this
  · have := box_new ((w.alloc (.cells #[.int .i64 i] 3)).alloc (.cells #[.int .i64 0, .int .i64 1] 63)) #[.int .i64 1, .slice (some ⟨w.heap.size + 1, 0, none⟩) 1 1] 25
    rw [World.size_alloc, World.size_alloc] at this
    exact this
theorem XB.step {w wi wj : World} {i : Int} (h : XB w wi i) (hb : Below wi.heap.size wi wj) : XB w wj i :=
  ⟨bel_of h.bel hb, Nat.le_trans h.sz hb.size, box_below h.b0 hb (Nat.le_refl _), box_below h.b1 hb (Nat.le_refl _), box_below h.b2 hb (Nat.le_refl _)⟩
theorem XB.sps {w wr : World} {i : Int} (h : XB w wr i) : Sps wr (some ⟨w.heap.size + 1, 0, none⟩) [(0, 1)] :=
  .inr ⟨_, 0, rfl, fun j hj => by
    match j, hj with
    | 0, _ => exact ⟨box_cell h.b1 0, box_cell h.b1 1⟩⟩
/-- so many noughts -/
def zs (n : Nat) : List Int := List.replicate n 0
theorem zs_len (n : Nat) : (zs n).length = n := by simp [zs]
theorem zs_row {w : World} (n : Nat) (W : World) (hb : W.heap[w.heap.size]? = some (.cells (madeCells #[.int .i64 0] n) 3)) : Row W (some ⟨w.heap.size, 0, none⟩) (zs n) :=
  .inr ⟨_, 0, rfl, fun j hj => by
    rw [zs_len] at hj
    rw [Nat.zero_add, box_cell hb j]
    have : (zs n).getD j 0 = 0 := by simp [zs, List.getD, hj]
    rw [this]
    simp [madeCells, hj, Nat.mod_one]⟩
theorem chk_le (size : Int) (sl : List Sp) : chk size sl ≤ 4 := by
  unfold chk chkG
  split
  · split
    · omega
    · split <;> omega
  · omega
theorem rchk_le (l : List Tk) (size : Int) (sl : List Sp) : rchk l size sl ≤ 4 := by
  unfold rchk
  split
  · exact chk_le _ _
  · exact (tchk_bd l).2
theorem rpl_odd {l : List Tk} {i size : Int} {sl : List Sp} (h : rplE l i size sl ≠ 0) : rplV l i size sl = 0 := by
  unfold rplE at h
  unfold rplV
  split
  · rename_i hc
    rw [if_pos hc.1, if_pos hc.2] at h
    by_cases c : repV l i.toNat size sl = 0
    · exact c
    · exact absurd (repE_some c) h
  · rfl
/-- where the task is there -/
theorem rpl_in {l : List Tk} {i size : Int} {sl : List Sp} (h : rplE l i size sl = 0 ∨ rplE l i size sl = 11) : ∃ n : Nat, i = n ∧ n < l.length ∧ rchk l size sl = 0 ∧ rplV l i size sl = repV l n size sl ∧ (rplE l i size sl = 0 ↔ repV l n size sl ≠ 0) := by
  have h1 : rchk l size sl = 0 := by
    have := rchk_le l size sl
    by_cases c : rchk l size sl = 0
    · exact c
    · unfold rplE at h
      rw [if_neg c] at h
      omega
  unfold rplE at h
  rw [if_pos h1] at h
  by_cases c : 0 ≤ i ∧ i < l.length
  · refine ⟨i.toNat, by omega, by omega, h1, ?_, ?_⟩
    · unfold rplV; rw [if_pos ⟨h1, c⟩]
    · unfold rplE
      rw [if_pos h1, if_pos c]
      unfold repE
      split
      · rename_i hz; simp [hz]
      · rename_i hz; simp [hz]
  · rw [if_neg c] at h; omega
/-- what the first job of a task does -/
theorem exact_k {l : List Tk} {n : Nat} {d k : Int} (hn : n < l.length) (hd : d = (l.getD n zTk).2.2) (h : plE ⟨l, zs l.length, 1, [(0, 1)], 2⟩ d = 0) (hk : exAt (plD ⟨l, zs l.length, 1, [(0, 1)], 2⟩ d) n k) :
    (repV l n 1 [(0, 1)] = 0 → k = -1) ∧ (repV l n 1 [(0, 1)] ≠ 0 → repV l n 1 [(0, 1)] ≤ d ∧ ∃ j : Nat, k = j ∧ ∃ h : j < (plD ⟨l, zs l.length, 1, [(0, 1)], 2⟩ d).length, (plD ⟨l, zs l.length, 1, [(0, 1)], 2⟩ d)[j].2.2.2 = repV l n 1 [(0, 1)]) := by
  have hR := plE_rt' h
  have e : plD ⟨l, zs l.length, 1, [(0, 1)], 2⟩ d = (⟨l, zs l.length, 1, [(0, 1)], 2⟩ : Pl).outs d.toNat := by unfold plD; rw [if_pos h]
  have ht : ((d.toNat : Nat) : Int) = d := by have := hR.t0; omega
  have hf : ∀ x ∈ (⟨l, zs l.length, 1, [(0, 1)], 2⟩ : Pl).f, x = 0 := fun x hx => List.eq_of_mem_replicate hx
  have hT : ((d.toNat : Nat) : Int) = ((⟨l, zs l.length, 1, [(0, 1)], 2⟩ : Pl).tk n).2.2 := by rw [ht, hd]; rfl
  rw [e] at hk ⊢
  have hex : ∀ x ∈ (⟨l, zs l.length, 1, [(0, 1)], 2⟩ : Pl).outs d.toNat, exq x n = true → x.2.2.2 = repV l n 1 [(0, 1)] := fun x hx hq => by
    unfold exq at hq
    obtain ⟨q1, q2⟩ := of_decide_eq_true hq
    exact Pl.exact_done (P := ⟨l, zs l.length, 1, [(0, 1)], 2⟩) hR.ok (by simp) hf rfl rfl (i := n) hn hT hx q1 q2
  constructor
  · intro hz
    rcases hk with ⟨hk, _⟩ | ⟨j, rfl, hj, hq, _⟩
    · exact hk
    · have e1 := hex _ (List.getElem_mem hj) hq
      obtain ⟨t, i', k', _, _, _, _, e2⟩ := (Pl.mem_outs hR.ok _ _).1 (List.getElem_mem hj)
      rw [e2] at e1
      simp only at e1
      omega
  · intro hz
    have hb := rep_bd (lst 1 [(0, 1)]) (l.take n) (x := l.getD n zTk) ((hR.ok.at (i := n) hn))
    refine ⟨by rw [hd]; exact hb.2, ?_⟩
    obtain ⟨x, hx, x1, x2⟩ := Pl.exact_some (P := ⟨l, zs l.length, 1, [(0, 1)], 2⟩) hR.ok (by simp) hf (i := n) hn hT hz
    rcases hk with ⟨_, hk⟩ | ⟨j, rfl, hj, hq, _⟩
    · have := hk x hx
      unfold exq at this
      rw [decide_eq_true ⟨x1, x2⟩] at this
      simp at this
    · exact ⟨j, rfl, hj, hex _ (List.getElem_mem hj) hq⟩
set_option maxRecDepth 20000 in
set_option maxHeartbeats 1600000 in
theorem exact_odd (l : List Tk) (i : Int) (a : Option Addr) (ca : Nat) (w : World) (hr : Tks w a l) (hca : l.length ≤ ca) (h : rplE l i 1 [(0, 1)] ≠ 0) (h11 : rplE l i 1 [(0, 1)] ≠ 11) :
    Calls Try.prog 11 #[.slice a l.length ca, .int .i64 i] w fun e w' => e = .returned (.bool true) ∧ Below w.heap.size w w' := by
  have H1 := hid (fun W (hs : Sps W (some ⟨w.heap.size + 1, 0, none⟩) [(0, 1)]) (h : Below w.heap.size w W) => Reply_any l i 1 [(0, 1)] a _ ca 1 W (hr.below h (Nat.le_refl _)) hs hca)
  simp only [List.length_singleton] at H1
  rw [rpl_odd h] at H1
  have q1 : (rplE l i 1 [(0, 1)] != 0) = true := by simpa using h
  have q2 : (rplE l i 1 [(0, 1)] != 11) = true := by simpa using h11
  clear hr h h11
  generalize rplE l i 1 [(0, 1)] = E at *
  go_enter Try.func11, Try.ntmps11
  have X0 := hid (XB.start w i)
  unfold xw at X0
  go_wp2_with fail
  refine (H1.out _ X0.out.sps X0.out.bel).mono ?_
  rintro e w1 ⟨rfl, b1⟩
  have X1 := hid (X0.out.step b1)
  have c0 := box_cell X1.out.b0 0
  simp at c0
  clear b1
  go_wp2_with fail
  refine (rlives _).mono ?_
  rintro e w2 ⟨rfl, b2⟩
  have X2 := hid (X1.out.step b2)
  have c0' := box_cell X2.out.b0 0
  simp at c0'
  clear b2 c0
  go_wp2_with fail
  refine (rlives _).mono ?_
  rintro e w3 ⟨rfl, b3⟩
  have X3 := hid (X2.out.step b3)
  clear b3
  go_wp2_with fail
  go_ret
  exact ⟨rfl, X3.out.bel⟩
set_option maxRecDepth 20000 in
set_option maxHeartbeats 1600000 in
theorem exact_err (l : List Tk) (i : Int) (a : Option Addr) (ca : Nat) (w : World) (hr : Tks w a l) (hca : l.length ≤ ca) (n : Nat) (hi : i = n) (hn : n < l.length) (hE : rplE l i 1 [(0, 1)] = 0 ∨ rplE l i 1 [(0, 1)] = 11) (d : Int) (hd : (l.getD n zTk).2.2 = d) (h : plE ⟨l, zs l.length, 1, [(0, 1)], 2⟩ d ≠ 0) (hl : l.length ≤ 16) :
    Calls Try.prog 11 #[.slice a l.length ca, .int .i64 i] w fun e w' => e = .returned (.bool true) ∧ Below w.heap.size w w' := by
  have H1 := hid (fun W (hs : Sps W (some ⟨w.heap.size + 1, 0, none⟩) [(0, 1)]) (h : Below w.heap.size w W) => Reply_any l i 1 [(0, 1)] a _ ca 1 W (hr.below h (Nat.le_refl _)) hs hca)
  simp only [List.length_singleton] at H1
  have HP := hid (fun W z (hs : Sps W (some ⟨w.heap.size + 1, 0, none⟩) [(0, 1)]) (hz : Row W (some ⟨z, 0, none⟩) (zs l.length)) (h : Below w.heap.size w W) => play_any ⟨l, zs l.length, 1, [(0, 1)], 2⟩ d a (some ⟨z, 0, none⟩) _ ca l.length 1 W (hr.below h (Nat.le_refl _)) hz hs)
  simp only [List.length_singleton, zs_len] at HP
  have HMK := hid (fun W => run_make_row' (P := Try.prog) 26 3 (.int .i64 0) 8 Try.underlying26 infoInt rfl .i64 .i64 l.length (by omega) (by omega) W)
  have q0 : (plE ⟨l, zs l.length, 1, [(0, 1)], 2⟩ d != 0) = true := by simpa using h
  have HR := hid hr
  have HD := hid hd
  subst hi
  have i1 : (0 : Int) ≤ (n : Int) := by omega
  have i2 : (n : Int) < (l.length : Int) := by omega
  clear hr h hd
  generalize rplV l n 1 [(0, 1)] = V at *
  generalize plE ⟨l, zs l.length, 1, [(0, 1)], 2⟩ d = F at *
  generalize plD ⟨l, zs l.length, 1, [(0, 1)], 2⟩ d = D at *
  generalize plN ⟨l, zs l.length, 1, [(0, 1)], 2⟩ d = NN at *
  generalize hEE : rplE l n 1 [(0, 1)] = E at *
  clear hEE
  rcases hE with rfl | rfl
  all_goals
    go_enter Try.func11, Try.ntmps11
    have X0 := hid (XB.start w n)
    unfold xw at X0
    go_wp2_with fail
    refine (H1.out _ X0.out.sps X0.out.bel).mono ?_
    rintro e w1 ⟨rfl, b1⟩
    have X1 := hid (X0.out.step b1)
    have c0 := box_cell X1.out.b0 0
    simp at c0
    clear b1
    go_wp2_with fail
    refine (rlives _).mono ?_
    rintro e w2 ⟨rfl, b2⟩
    have X2 := hid (X1.out.step b2)
    have c0' := box_cell X2.out.b0 0
    simp at c0'
    clear b2 c0
    obtain ⟨tb, to, rfl, _, z1, z2, z3⟩ := (HR.out.below X2.out.bel (Nat.le_refl _)).at n hn
    rw [HD.out] at z3
    clear z1 z2
    go_wp2_with fail
    clear z3 c0'
    have y0 := box_cell X2.out.b2 0
    have y1 := box_cell X2.out.b2 1
    simp at y0 y1
    have hmk := HMK.out
    have hal := (Below.refl w2.heap.size w2).alloc (Nat.le_refl _) (.cells (madeCells #[.int .i64 0] l.length) 3)
    have hdr := hal.drew
    have XA := hid (X2.out.step hdr)
    have y2 := box_cell XA.out.b2 0
    have y3 := box_cell XA.out.b2 1
    simp at y2 y3
    have HZ := hid (zs_row (w := w2) l.length ((w2.alloc (.cells (madeCells #[.int .i64 0] l.length) 3)).drew) (box_new w2 _ _))
    clear hal hdr
    have HPL := hid (HP.out _ _ XA.out.sps HZ.out XA.out.bel)
    go_region_with (go_at_call 14; refine HPL.out.mono ?_; rintro e w3 ⟨⟨vd, rfl, hod⟩, b3⟩)
    all_goals
      have X3 := hid (XA.out.step b3)
      have c0 := box_cell X3.out.b0 0
      simp at c0
      obtain ⟨ad, cd, rfl, hrd, _⟩ := hod.rd
      have RD3 := hid hrd
      clear hod b3 hrd y0 y1 y2 y3 hmk
      go_wp2_with fail
      go_ret
      exact ⟨rfl, X3.out.bel⟩
set_option maxRecDepth 20000 in
set_option maxHeartbeats 1600000 in
theorem exact_late (l : List Tk) (i : Int) (a : Option Addr) (ca : Nat) (w : World) (hr : Tks w a l) (hca : l.length ≤ ca) (n : Nat) (hi : i = n) (hn : n < l.length) (d : Int) (hd : (l.getD n zTk).2.2 = d) (h : plE ⟨l, zs l.length, 1, [(0, 1)], 2⟩ d = 0) (hl : l.length ≤ 16) (hE : rplE l i 1 [(0, 1)] = 11) (hV : rplV l i 1 [(0, 1)] = 0) (hz : repV l n 1 [(0, 1)] = 0) :
    Calls Try.prog 11 #[.slice a l.length ca, .int .i64 i] w fun e w' => e = .returned (.bool true) ∧ Below w.heap.size w w' := by
  have H1 := hid (fun W (hs : Sps W (some ⟨w.heap.size + 1, 0, none⟩) [(0, 1)]) (h : Below w.heap.size w W) => Reply_any l i 1 [(0, 1)] a _ ca 1 W (hr.below h (Nat.le_refl _)) hs hca)
  simp only [List.length_singleton] at H1
  have HP := hid (fun W z (hs : Sps W (some ⟨w.heap.size + 1, 0, none⟩) [(0, 1)]) (hz : Row W (some ⟨z, 0, none⟩) (zs l.length)) (h : Below w.heap.size w W) => play_any ⟨l, zs l.length, 1, [(0, 1)], 2⟩ d a (some ⟨z, 0, none⟩) _ ca l.length 1 W (hr.below h (Nat.le_refl _)) hz hs)
  simp only [List.length_singleton, zs_len] at HP
  have HMK := hid (fun W => run_make_row' (P := Try.prog) 26 3 (.int .i64 0) 8 Try.underlying26 infoInt rfl .i64 .i64 l.length (by omega) (by omega) W)
  have HK := hid (fun k (hk : exAt (plD ⟨l, zs l.length, 1, [(0, 1)], 2⟩ d) n k) => exact_k hn hd.symm h hk)
  have HDL := hid (show (plD ⟨l, zs l.length, 1, [(0, 1)], 2⟩ d).length ≤ 100000 by
    have hR := plE_rt' h
    have ht : ((d.toNat : Nat) : Int) = d := by have := hR.t0; omega
    unfold plD
    rw [if_pos h]
    have := PlayC.outs_few hR.ok d.toNat
    rw [ht] at this
    have := hR.few
    omega)
  rw [hE, hV] at H1
  clear hE hV
  rw [h] at HP
  have HR := hid hr
  have HD := hid hd
  subst hi
  have i1 : (0 : Int) ≤ (n : Int) := by omega
  have i2 : (n : Int) < (l.length : Int) := by omega
  clear hr h hd
  generalize repV l n 1 [(0, 1)] = V at *
  generalize plD ⟨l, zs l.length, 1, [(0, 1)], 2⟩ d = D at *
  generalize plN ⟨l, zs l.length, 1, [(0, 1)], 2⟩ d = NN at *
  go_enter Try.func11, Try.ntmps11
  have X0 := hid (XB.start w n)
  unfold xw at X0
  go_wp2_with fail
  refine (H1.out _ X0.out.sps X0.out.bel).mono ?_
  rintro e w1 ⟨rfl, b1⟩
  have X1 := hid (X0.out.step b1)
  have c0 := box_cell X1.out.b0 0
  simp at c0
  clear b1
  go_wp2_with fail
  refine (rlives _).mono ?_
  rintro e w2 ⟨rfl, b2⟩
  have X2 := hid (X1.out.step b2)
  have c0' := box_cell X2.out.b0 0
  simp at c0'
  clear b2 c0
  obtain ⟨tb, to, rfl, _, z1, z2, z3⟩ := (HR.out.below X2.out.bel (Nat.le_refl _)).at n hn
  rw [HD.out] at z3
  clear z1 z2
  go_wp2_with fail
  clear z3 c0'
  have y0 := box_cell X2.out.b2 0
  have y1 := box_cell X2.out.b2 1
  simp at y0 y1
  have hmk := HMK.out
  have hal := (Below.refl w2.heap.size w2).alloc (Nat.le_refl _) (.cells (madeCells #[.int .i64 0] l.length) 3)
  have hdr := hal.drew
  have XA := hid (X2.out.step hdr)
  have y2 := box_cell XA.out.b2 0
  have y3 := box_cell XA.out.b2 1
  simp at y2 y3
  have HZ := hid (zs_row (w := w2) l.length ((w2.alloc (.cells (madeCells #[.int .i64 0] l.length) 3)).drew) (box_new w2 _ _))
  clear hal hdr
  have HPL := hid (HP.out _ _ XA.out.sps HZ.out XA.out.bel)
  go_region_with (go_at_call 14; refine HPL.out.mono ?_; rintro e w3 ⟨⟨vd, rfl, hod⟩, b3⟩)
  all_goals
    have X3 := hid (XA.out.step b3)
    have c0 := box_cell X3.out.b0 0
    simp at c0
    obtain ⟨ad, cd, rfl, hrd, _⟩ := hod.rd
    have RD3 := hid hrd
    clear hod b3 hrd y0 y1 y2 y3 hmk
    go_wp2_with fail
    refine (ex_index ad cd D n w.heap.size w3 RD3.out HDL.out (by have := X3.out.sz; omega) c0).mono ?_
    rintro e w4 ⟨⟨k, rfl, hk⟩, b4⟩
    have X4 := hid (X3.out.step b4)
    have hkk := HK.out k hk
    have RD4 := hid (Rd.below RD3.out b4 (Nat.le_refl _))
    clear hk b4 c0
    obtain rfl := hkk.1 hz
    clear hkk
    go_wp2_with fail
    go_ret
    exact ⟨rfl, X4.out.bel⟩
set_option maxRecDepth 20000 in
set_option maxHeartbeats 1600000 in
theorem exact_ok (l : List Tk) (i : Int) (a : Option Addr) (ca : Nat) (w : World) (hr : Tks w a l) (hca : l.length ≤ ca) (n : Nat) (hi : i = n) (hn : n < l.length) (d : Int) (hd : (l.getD n zTk).2.2 = d) (h : plE ⟨l, zs l.length, 1, [(0, 1)], 2⟩ d = 0) (hl : l.length ≤ 16) (hE : rplE l i 1 [(0, 1)] = 0) (hV : rplV l i 1 [(0, 1)] = repV l n 1 [(0, 1)]) (hz : repV l n 1 [(0, 1)] ≠ 0) :
    Calls Try.prog 11 #[.slice a l.length ca, .int .i64 i] w fun e w' => e = .returned (.bool true) ∧ Below w.heap.size w w' := by
  have H1 := hid (fun W (hs : Sps W (some ⟨w.heap.size + 1, 0, none⟩) [(0, 1)]) (h : Below w.heap.size w W) => Reply_any l i 1 [(0, 1)] a _ ca 1 W (hr.below h (Nat.le_refl _)) hs hca)
  simp only [List.length_singleton] at H1
  have HP := hid (fun W z (hs : Sps W (some ⟨w.heap.size + 1, 0, none⟩) [(0, 1)]) (hz : Row W (some ⟨z, 0, none⟩) (zs l.length)) (h : Below w.heap.size w W) => play_any ⟨l, zs l.length, 1, [(0, 1)], 2⟩ d a (some ⟨z, 0, none⟩) _ ca l.length 1 W (hr.below h (Nat.le_refl _)) hz hs)
  simp only [List.length_singleton, zs_len] at HP
  have HMK := hid (fun W => run_make_row' (P := Try.prog) 26 3 (.int .i64 0) 8 Try.underlying26 infoInt rfl .i64 .i64 l.length (by omega) (by omega) W)
  have HK := hid (fun k (hk : exAt (plD ⟨l, zs l.length, 1, [(0, 1)], 2⟩ d) n k) => exact_k hn hd.symm h hk)
  have HDL := hid (show (plD ⟨l, zs l.length, 1, [(0, 1)], 2⟩ d).length ≤ 100000 by
    have hR := plE_rt' h
    have ht : ((d.toNat : Nat) : Int) = d := by have := hR.t0; omega
    unfold plD
    rw [if_pos h]
    have := PlayC.outs_few hR.ok d.toNat
    rw [ht] at this
    have := hR.few
    omega)
  rw [hE, hV] at H1
  clear hE hV
  rw [h] at HP
  have HR := hid hr
  have HD := hid hd
  subst hi
  have i1 : (0 : Int) ≤ (n : Int) := by omega
  have i2 : (n : Int) < (l.length : Int) := by omega
  clear hr h hd
  generalize repV l n 1 [(0, 1)] = V at *
  generalize plD ⟨l, zs l.length, 1, [(0, 1)], 2⟩ d = D at *
  generalize plN ⟨l, zs l.length, 1, [(0, 1)], 2⟩ d = NN at *
  go_enter Try.func11, Try.ntmps11
  have X0 := hid (XB.start w n)
  unfold xw at X0
  go_wp2_with fail
  refine (H1.out _ X0.out.sps X0.out.bel).mono ?_
  rintro e w1 ⟨rfl, b1⟩
  have X1 := hid (X0.out.step b1)
  have c0 := box_cell X1.out.b0 0
  simp at c0
  clear b1
  go_wp2_with fail
  refine (rlives _).mono ?_
  rintro e w2 ⟨rfl, b2⟩
  have X2 := hid (X1.out.step b2)
  have c0' := box_cell X2.out.b0 0
  simp at c0'
  clear b2 c0
  obtain ⟨tb, to, rfl, _, z1, z2, z3⟩ := (HR.out.below X2.out.bel (Nat.le_refl _)).at n hn
  rw [HD.out] at z3
  clear z1 z2
  go_wp2_with fail
  clear z3 c0'
  have y0 := box_cell X2.out.b2 0
  have y1 := box_cell X2.out.b2 1
  simp at y0 y1
  have hmk := HMK.out
  have hal := (Below.refl w2.heap.size w2).alloc (Nat.le_refl _) (.cells (madeCells #[.int .i64 0] l.length) 3)
  have hdr := hal.drew
  have XA := hid (X2.out.step hdr)
  have y2 := box_cell XA.out.b2 0
  have y3 := box_cell XA.out.b2 1
  simp at y2 y3
  have HZ := hid (zs_row (w := w2) l.length ((w2.alloc (.cells (madeCells #[.int .i64 0] l.length) 3)).drew) (box_new w2 _ _))
  clear hal hdr
  have HPL := hid (HP.out _ _ XA.out.sps HZ.out XA.out.bel)
  go_region_with (go_at_call 14; refine HPL.out.mono ?_; rintro e w3 ⟨⟨vd, rfl, hod⟩, b3⟩)
  all_goals
    have X3 := hid (XA.out.step b3)
    have c0 := box_cell X3.out.b0 0
    simp at c0
    obtain ⟨ad, cd, rfl, hrd, _⟩ := hod.rd
    have RD3 := hid hrd
    clear hod b3 hrd y0 y1 y2 y3 hmk
    go_wp2_with fail
    refine (ex_index ad cd D n w.heap.size w3 RD3.out HDL.out (by have := X3.out.sz; omega) c0).mono ?_
    rintro e w4 ⟨⟨k, rfl, hk⟩, b4⟩
    have X4 := hid (X3.out.step b4)
    have hkk := HK.out k hk
    have RD4 := hid (Rd.below RD3.out b4 (Nat.le_refl _))
    clear hk b4 c0
    obtain ⟨k1, j, rfl, hj, hat⟩ := hkk.2 hz
    obtain ⟨pb, po, rfl, hc⟩ := Rd.at RD4.out j hj
    generalize D[j] = x at *
    obtain ⟨z0, z1, z2, z3⟩ := x
    have a3 := hc 3 (by decide)
    simp [ED] at a3
    simp only at hat
    subst hat
    have i3 : (0 : Int) ≤ (j : Int) := by omega
    have i4 : (j : Int) < (D.length : Int) := by omega
    clear hkk hc
    go_wp2_with fail
    go_ret
    exact ⟨by first | rfl | simp, X4.out.bel⟩
theorem replyExact_walk (a0 : Option Addr) (len0 cap0 : Nat) (l0 : List TaskM.Tk) (n1 : Int) (w : World)
    (w0 : RowsO.IsTks w a0 len0 cap0 l0) (w1 : SpanC.wf64 n1) :
    Calls Try.prog 11 #[.slice a0 len0 cap0, .int .i64 n1] w fun e w' => e = .returned (.bool true) ∧ Below w.heap.size w w' := by
  obtain ⟨rfl, hc, _, hr, _⟩ := w0
  by_cases h0 : rplE l0 n1 1 [(0, 1)] = 0 ∨ rplE l0 n1 1 [(0, 1)] = 11
  · obtain ⟨n, hi, hn, hk, hv, hz⟩ := rpl_in h0
    have hl := (tchk_zero (rchk_zero hk).1).1
    by_cases hp : plE ⟨l0, zs l0.length, 1, [(0, 1)], 2⟩ (l0.getD n zTk).2.2 = 0
    · by_cases h1 : rplE l0 n1 1 [(0, 1)] = 0
      · exact exact_ok l0 n1 a0 cap0 w hr hc n hi hn _ rfl hp hl h1 hv (hz.1 h1)
      · have h2 : repV l0 n 1 [(0, 1)] = 0 := Classical.byContradiction fun c => h1 (hz.2 c)
        exact exact_late l0 n1 a0 cap0 w hr hc n hi hn _ rfl hp hl (h0.resolve_left h1) (by rw [hv, h2]) h2
    · exact exact_err l0 n1 a0 cap0 w hr hc n hi hn h0 _ rfl hp hl
  · exact exact_odd l0 n1 a0 cap0 w hr hc (fun h => h0 (.inl h)) (fun h => h0 (.inr h))
end RepC
end Go.Proofs.Ytpnahhpkaegeeaa
