/- Several texts, one behind the other: RnkH RnkI RnkL1 RnkL2. -/
import Derived.Test.YtnbfadfhpegddaaPkRk
import Derived.Test.YtnbfadfhpegddaaRepV
import Derived.Test.YtnbfadfhpegddaaOpenIn
import Derived.Laws.StructEq
/- rankLives; the walks of RankAudsley and RankDue. -/
set_option linter.unusedVariables false
namespace Go.Proofs.Ytnbfadfhpegddaa
open Go.RowKit hiding tok
open Go.Shelf Go.Sort
open SpanM SupM SpanC TaskM PlayM RankM
open RowsO hiding Tk
namespace RankC
open TaskC (tchk tchkG tchk_zero tchk_of tchk_bd tcheck_any tk_snoc tk_mem)
open NumC (Row)
open RepC (OwnI.row OwnI.set OwnI.frozen OwnI.base' OwnI.made made_zero rchk rchk_zero iequal_any)
open PlayC (Row.below box_cell box_alloc box_new)
/-- a box of a call's own -/
structure B1 (w W : World) (x : Array Value) (tx : Nat) : Prop where
  b : Below (w.heap.size + 1) (w.alloc (.cells x tx)) W
theorem B1.start (w : World) (x : Array Value) (tx : Nat) : B1 w (w.alloc (.cells x tx)) x tx := ⟨Below.refl _ _⟩
theorem B1.size {w W : World} {x : Array Value} {tx : Nat} (h : B1 w W x tx) : w.heap.size + 1 ≤ W.heap.size := by
  have := h.b.size
  rw [World.size_alloc] at this
  exact this
theorem B1.step {w W V : World} {x : Array Value} {tx : Nat} (h : B1 w W x tx) (k : Below W.heap.size W V) : B1 w V x tx := ⟨h.b.trans (k.mono h.size)⟩
theorem B1.bel {w W : World} {x : Array Value} {tx : Nat} (h : B1 w W x tx) : Below w.heap.size w W :=
  ((Below.refl _ w).alloc (Nat.le_refl _) _).trans (h.b.mono (by omega))
theorem B1.c0 {w W : World} {x : Array Value} {tx : Nat} (h : B1 w W x tx) (i : Nat) : W.cell? ⟨w.heap.size, i, none⟩ = x[i]? := by
  rw [h.b.cell (by show w.heap.size < _; omega)]
  exact box_cell (box_new w x tx) i
/-- two tasks, of which the second one has to go first -/
def LK : List Tk := [(3, 9, 8), (2, 5, 2)]
theorem LK_chk : tchk LK = 0 := by
  refine tchk_of (by decide) ?_
  intro x hx
  simp only [LK, List.mem_cons, List.mem_nil_iff, or_false] at hx
  rcases hx with rfl | rfl <;> (unfold tok; decide)
theorem LK_due : ordE (fun x => x.2.2) LK = [1, 0] := by
  unfold ordE
  rw [if_pos LK_chk]
  symm
  refine KP.eq ⟨⟨rfl, ?_⟩, ?_⟩
  · intro i hi
    have : i = 0 ∨ i = 1 := by have : LK.length = 2 := rfl; omega
    rcases this with rfl | rfl <;> decide
  · refine List.pairwise_cons.2 ⟨?_, List.pairwise_singleton _ _⟩
    intro y hy
    simp only [List.mem_singleton] at hy
    subst hy
    exact .inl (by decide)
theorem LK_found : fnd LK 1 [(0, 1)] = some [1, 0] := by
  refine fnd_eq ?_
  have h2 : RankM.Found (lst 1 [(0, 1)]) LK [1] (some [1]) := by
    refine RankM.Found.step (u := []) (v := []) (i := 1) (r := some []) ?_ ?_ RankM.Found.nil
    · intro u' j v' _ h; simp at h
    · refine ⟨2, by decide, by decide, ?_⟩
      rw [all_lst (by omega) (by omega)]; decide
  have h1 : RankM.Found (lst 1 [(0, 1)]) LK [0, 1] (some [1, 0]) := by
    refine RankM.Found.step (u := []) (v := [1]) (i := 0) (r := some [1]) ?_ ?_ h2
    · intro u' j v' _ h; simp at h
    · refine ⟨5, by decide, by decide, ?_⟩
      rw [all_lst (by omega) (by omega)]; decide
  exact h1
theorem LK_rchk : rchk LK 1 [(0, 1)] = 0 := by unfold rchk; rw [if_pos LK_chk]; decide
theorem LK_fndE : fndE LK 1 [(0, 1)] = 0 := by unfold fndE; rw [if_pos LK_rchk, LK_found]; rfl
theorem LK_fndL : fndL LK 1 [(0, 1)] = [1, 0] := by unfold fndL; rw [if_pos LK_rchk, LK_found]; rfl
theorem row10 (w : World) : Row (w.alloc (.cells #[.int .i64 1, .int .i64 0] 3)) (some ⟨w.heap.size, 0, none⟩) [1, 0] :=
  .inr ⟨_, 0, rfl, fun i hi => by
    have hb := box_new w #[.int .i64 1, .int .i64 0] 3
    match i, hi with
    | 0, _ => exact box_cell hb 0
    | 1, _ => exact box_cell hb 1⟩
set_option maxRecDepth 20000 in
set_option maxHeartbeats 1600000 in
theorem lives (w : World) :
    Calls Try.prog 25 #[] w fun e w' => e = .returned (.bool true) ∧ Below w.heap.size w w' := by
  obtain ⟨V, hV⟩ : ∃ V, V = w.alloc (.cells #[.int .i64 3, .int .i64 9, .int .i64 8, .int .i64 2, .int .i64 5, .int .i64 2] 38) := ⟨_, rfl⟩
  have hT : Tks V (some ⟨w.heap.size, 0, none⟩) LK := .inr ⟨_, 0, rfl, fun i hi => by
    have hb := box_new w #[.int .i64 3, .int .i64 9, .int .i64 8, .int .i64 2, .int .i64 5, .int .i64 2] 38
    rw [hV]
    match i, hi with
    | 0, _ => exact ⟨box_cell hb 0, box_cell hb 1, box_cell hb 2⟩
    | 1, _ => exact ⟨box_cell hb 3, box_cell hb 4, box_cell hb 5⟩⟩
  have hB : Below w.heap.size w V := by rw [hV]; exact (Below.refl _ w).alloc (Nat.le_refl _) _
  have H1 := hid (ByDue_any LK _ 2 V hT)
  rw [LK_due, LK_chk] at H1
  have HT := hid hT
  have HB := hid hB
  have HV := hid hV
  have HF := hid (fun (W : World) (a : Option Addr) (h : Below V.heap.size V W) (hs : Sps W a [(0, 1)]) => Find_any LK 1 [(0, 1)] _ a 2 1 W (hT.below h (Nat.le_refl _)) hs (by decide))
  rw [LK_fndE, LK_fndL] at HF
  simp only [show LK.length = 2 from rfl, List.length_singleton] at H1 HF
  clear hT hB hV
  go_enter Try.func25, Try.ntmps25
  go_wp2_with fail
  rw [← HV.out]
  refine H1.out.mono ?_
  rintro e w1 ⟨⟨v1, rfl, ho1⟩, b1⟩
  obtain ⟨a1, k1, rfl, hr1, _⟩ := OwnI.row ho1
  have HR1 := hid hr1
  have HB1 := hid b1
  clear hr1 b1 ho1
  simp only [List.length_cons, List.length_nil]
  go_wp2_with fail
  refine (HF.out _ (some ⟨w1.heap.size, 0, none⟩) (HB1.out.alloc HB1.out.size _) (.inr ⟨_, 0, rfl, fun i hi => by
    have hb := box_new w1 #[.int .i64 0, .int .i64 1] 58
    match i, hi with
    | 0, _ => exact ⟨box_cell hb 0, box_cell hb 1⟩⟩)).mono ?_
  rintro e w2 ⟨⟨v2, rfl, ho2⟩, b2⟩
  obtain ⟨a2, k2, rfl, hr2, _⟩ := OwnI.row ho2
  have HB2 := hid ((HB1.out.alloc HB1.out.size _).trans (b2.mono (by have := HB1.out.size; rw [World.size_alloc]; omega)))
  have HR2 := hid hr2
  have HR1' := hid (Row.below (Row.below HR1.out ((Below.refl _ w1).alloc (Nat.le_refl _) _) (Nat.le_refl _)) b2 (Nat.le_refl _))
  clear b2 ho2 hr2
  simp only [List.length_cons, List.length_nil]
  have HE1 := hid (iequal_any a1 (some ⟨w2.heap.size, 0, none⟩) k1 2 [1, 0] [1, 0] _ (Row.below HR1'.out ((Below.refl _ w2).alloc (Nat.le_refl _) _) (Nat.le_refl _)) (row10 w2) (by decide))
  have HE2 := hid (fun (W : World) (h : Below w2.heap.size w2 W) => iequal_any a2 (some ⟨W.heap.size, 0, none⟩) k2 2 [1, 0] [1, 0] _ (Row.below HR2.out (h.alloc h.size _) (Nat.le_refl _)) (row10 W) (by decide))
  simp only [decide_true, List.length_cons, List.length_nil] at HE1 HE2
  go_wp2_with fail
  refine HE1.out.mono ?_
  rintro e w3 ⟨rfl, b3⟩
  have HB3 := hid (((Below.refl _ w2).alloc (Nat.le_refl _) (.cells #[.int .i64 1, .int .i64 0] 3)).trans (b3.mono (by rw [World.size_alloc]; omega)))
  clear b3
  go_wp2_with fail
  refine (HE2.out _ HB3.out).mono ?_
  rintro e w4 ⟨rfl, b4⟩
  have HB4 := hid ((HB3.out.alloc HB3.out.size _).trans (b4.mono (by have := HB3.out.size; rw [World.size_alloc]; omega)))
  clear b4
  go_wp2_with fail
  go_ret
  exact ⟨rfl, bel_of HB.out (bel_of HB2.out HB4.out)⟩
theorem rchk_11 (l : List Tk) (size : Int) (sl : List Sp) : rchk l size sl ≠ 11 := by
  have := tchk_bd l
  unfold rchk
  split
  · unfold chk chkG
    (repeat' split) <;> omega
  · omega
end RankC
end Go.Proofs.Ytnbfadfhpegddaa

/- Contracts: slices.Equal of tasks (of the same ones), OrderRight, slices.IsSortedFunc at RankOrder's closure. -/
set_option linter.unusedVariables false
namespace Go.Proofs.Ytnbfadfhpegddaa
open Go.RowKit hiding tok
open Go.Shelf Go.Sort
open SpanM SupM SpanC TaskM PlayM RankM
open RowsO hiding Tk
namespace RankC
open TaskC (tchk tchkG tchk_zero tchk_of tchk_bd tcheck_any tk_snoc tk_mem)
open NumC (Row)
open RepC (OwnI.row OwnI.set OwnI.frozen OwnI.base' OwnI.made made_zero rchk rchk_zero)
open PlayC (Row.below box_cell box_alloc box_new)
theorem neqT (x0 x1 x2 y0 y1 y2 : Int) (w : World) : (binOp .neq 38 (.agg #[.int .i64 x0, .int .i64 x1, .int .i64 x2]) (.agg #[.int .i64 y0, .int .i64 y1, .int .i64 y2])).run Try.prog w = .ok (.bool (decide (¬ (x0 = y0 ∧ x1 = y1 ∧ x2 = y2)))) w := by
  have u3 := Try.underlying3
  have a3 := Try.isAgg3
  have z3 := Try.sizeOf3
  have hS : Try.prog.underlying 38 = some (.struct (Try.prog.fieldsOf 38)) := by kernel_rfl
  have hp : Try.prog.stoodInHeld 38 = false := by kernel_rfl
  rw [run_neq_struct, show (10000 : Nat) = 9999 + 1 from rfl, run_equalIn_agg w 9999 38 _ _ hS hp]
  simp only [Program.fieldsOf, Try.underlying38]
  go_simp
  by_cases h1 : x0 = y0 <;> by_cases h2 : x1 = y1 <;> by_cases h3 : x2 = y2 <;> simp [h1, h2, h3]
theorem guardT : Try.prog.eqGuardType Try.prog.depth 38 = false := by kernel_rfl
set_option maxRecDepth 20000 in
set_option maxHeartbeats 1600000 in
theorem tequal_same (a b : Option Addr) (n ca cb : Nat) (l : List Tk) (w : World) (ha : Tks w a l) (hb : Tks w b l) (hn : n = l.length) (hl : n ≤ 100000) :
    Calls Try.prog 20 #[.slice a n ca, .slice b n cb] w fun e w' => e = .returned (.bool true) ∧ Below w.heap.size w w' := by
  have hne : ((n : Int) != (n : Int)) = false := by simp
  have HA := hid ha
  have HB := hid hb
  have HN := hid hn
  have mixed := mixd
  clear ha hb hn
  go_enter Try.func20, Try.ntmps20
  go_wp2_with fail
  go_loopw [13] (fun vk wr => ∃ k : Nat, k ≤ n ∧ vk = .int .i64 k ∧ Below w.heap.size w wr) (fun vk _ => n - (intOf vk).toNat)
  case atStart => exact ⟨0, by omega, rfl, Below.refl _ _⟩
  case round =>
    obtain ⟨k, hk, rfl, hbel⟩ := hrel
    have HBL := hid hbel
    by_cases hlt : k < n
    · obtain ⟨p, off, hpa, _, a0, a1, a2⟩ := (HA.out.below hbel (Nat.le_refl _)).at k (by have := HN.out; omega)
      obtain ⟨q, off2, hqb, _, b0, b1, b2⟩ := (HB.out.below hbel (Nat.le_refl _)).at k (by have := HN.out; omega)
      subst hpa
      subst hqb
      generalize l.getD k zTk = x at *
      obtain ⟨x0, x1, x2⟩ := x
      simp only at a0 a1 a2 b0 b1 b2
      have i1 : (k : Int) < (n : Int) := by omega
      clear hbel
      have hnq := fun W => neqT x0 x1 x2 x0 x1 x2 W
      have hgd := guardT
      have hd : decide (¬ (x0 = x0 ∧ x1 = x1 ∧ x2 = x2)) = false := by simp
      rw [hd] at hnq
      clear hd
      go_wp2_with fail
      go_quiet (fail)
      go_wp2_with fail
      go_roundw
      case rel => exact ⟨k + 1, by omega, by go_num, below_drewN HBL.out _⟩
      case measure => simp [intOf]; omega
    · go_wp2_with fail
      go_ret
      exact ⟨rfl, HBL.out⟩
set_option maxRecDepth 20000 in
set_option maxHeartbeats 800000 in
theorem rightOrder_any (o : List Int) (n : Nat) (a : Option Addr) (ca : Nat) (w : World) (hr : Row w a o) (hl : o.length ≤ 100000) :
    Calls Try.prog 18 #[.int .i64 n, .slice a o.length ca] w fun e w' => e = .returned (.bool (decide (OrdP n o))) ∧ Below w.heap.size w w' := by
  by_cases hln : o.length = n
  · have HC := hid (fun (W : World) (i : Int) (h : Below w.heap.size w W) => icontains_any a ca o i W (Row.below hr h (Nat.le_refl _)) hl)
    have HYES := hid (fun (h : ∀ i : Nat, i < n → (i : Int) ∈ o) => (decide_eq_true (p := OrdP n o) ⟨hln, h⟩ : decide (OrdP n o) = true))
    have HNO := hid (fun (k : Nat) (hk : k < n) (h : (k : Int) ∉ o) => decide_eq_false (fun q : OrdP n o => h (q.2 k hk)))
    clear hr
    generalize decide (OrdP n o) = R at *
    have hn1 : ((o.length : Int) != (n : Int)) = false := by simp [hln]
    have hnb : n ≤ 100000 := by omega
    rw [hln]
    rw [hln] at hn1 HC
    clear hln hl
    go_enter Try.func18, Try.ntmps18
    go_wp2_with fail
    go_loopw [11] (fun v11 wr => ∃ k : Nat, k ≤ n ∧ v11 = .int .i64 k ∧ Hid (∀ i : Nat, i < k → (i : Int) ∈ o) ∧ Below w.heap.size w wr) (fun v11 _ => n - (intOf v11).toNat)
    case atStart => exact ⟨0, by omega, rfl, fun i h => by omega, Below.refl _ _⟩
    case round =>
      obtain ⟨k, hk, rfl, HA, hb⟩ := hrel
      have HB := hid hb
      by_cases hlt : k < n
      · have hki : (k : Int) < (n : Int) := by omega
        have HCK := hid (HC.out wr k hb)
        have HX := hid (HNO.out k hlt)
        clear hb
        by_cases hm : (k : Int) ∈ o
        · rw [decide_eq_true hm] at HCK
          have HA2 : Hid (∀ i : Nat, i < k + 1 → (i : Int) ∈ o) := fun i hi => by
            by_cases c : i = k
            · subst c; exact hm
            · exact HA.out i (by omega)
          clear hm
          go_wp2_with fail
          refine HCK.out.mono ?_
          rintro e w1 ⟨rfl, b1⟩
          have HB1 := hid (bel_of HB.out b1)
          clear b1
          go_wp2_with fail
          go_roundw
          case rel => exact ⟨k + 1, by omega, by go_num, HA2, HB1.out⟩
          case measure => simp [intOf]; omega
        · rw [decide_eq_false hm] at HCK
          have HR := hid (HX.out hm)
          clear hm
          go_wp2_with fail
          refine HCK.out.mono ?_
          rintro e w1 ⟨rfl, b1⟩
          have HB1 := hid (bel_of HB.out b1)
          clear b1
          go_wp2_with fail
          go_ret
          exact ⟨by rw [HR.out]; rfl, HB1.out⟩
      · have HR := hid (HYES.out (fun i hi => HA.out i (by omega)))
        clear hb
        go_wp2_with fail
        go_ret
        exact ⟨by rw [HR.out]; rfl, HB.out⟩
  · rw [decide_eq_false (fun q : OrdP n o => hln q.1)]
    have hn1 : ((o.length : Int) != (n : Int)) = true := by simp; omega
    clear hr hln
    go_enter Try.func18, Try.ntmps18
    go_wp2_with fail
    go_ret
    exact ⟨rfl, Below.refl _ _⟩
set_option maxRecDepth 20000 in
theorem sub_any (x y : Tk) (w : World) (hx : tok x) (hy : tok y) :
    Calls Try.prog 28 #[vT x, vT y] w fun e w' => e = .returned (.int .i64 (x.2.2 - y.2.2)) ∧ ∃ q os, w' = grow (w.drewN q) os := by
  obtain ⟨m, e, d⟩ := x
  obtain ⟨m', e', d'⟩ := y
  obtain ⟨_, x0, x1, x2, _, _⟩ := hx
  obtain ⟨_, y0, y1, y2, _, _⟩ := hy
  simp only at x0 x1 x2 y0 y1 y2
  have hw : IntKind.i64.wrap (d - d') = d - d' := by rw [IntKind.wrap_i64]; omega
  go_enter Try.func28, Try.ntmps28
  go_wp2_with fail
  go_ret
  exact ⟨rfl, 0, _, by rw [alloc_eq_grow, alloc_eq_grow, grow_grow]; rfl⟩
theorem below_grow {B : Nat} {a w : World} (h : Below B a w) (hB : B ≤ w.heap.size) (n : Nat) (os : Array Obj) : Below B a (grow (w.drewN n) os) :=
  h.grown (grown_grow w n os none) hB (fun g hg => by simp at hg)
set_option maxRecDepth 20000 in
set_option maxHeartbeats 1600000 in
theorem isSorted_any (l : List Tk) (a : Option Addr) (ca : Nat) (w : World) (hr : Tks w a l) (hn : l.length ≤ 16) (hg : ∀ x ∈ l, tok x) (hs : l.Pairwise (fun x y => x.2.2 ≤ y.2.2)) :
    Calls Try.prog 27 #[.slice a l.length ca, .func (.func 28) #[] #[]] w fun e w' => e = .returned (.bool true) ∧ Below w.heap.size w w' := by
  have mixed := mixd
  have HR := hid hr
  have HSUB := hid (fun (k : Nat) (hk : k + 1 < l.length) (W : World) => sub_any (l.getD (k + 1) zTk) (l.getD k zTk) W (hg _ (tk_mem hk)) (hg _ (tk_mem (by omega))))
  have HLE := hid (fun (k : Nat) (hk : k + 1 < l.length) => (by
    have h := List.pairwise_iff_getElem.1 hs k (k + 1) (by omega) hk (by omega)
    simpa [List.getD, hk, show k < l.length by omega] using h : (l.getD k zTk).2.2 ≤ (l.getD (k + 1) zTk).2.2))
  have HT := hid (fun (k : Nat) (hk : k < l.length) => hg _ (tk_mem hk))
  clear hr hg hs
  go_enter Try.func27, Try.ntmps27
  go_wp2_with fail
  go_loopw [5] (fun v5 wr => ∃ z : Int, v5 = .int .i64 z ∧ -1 ≤ z ∧ z < (l.length : Int) ∧ Below w.heap.size w wr) (fun v5 _ => (intOf v5).toNat)
  case atStart => exact ⟨(l.length : Int) - 1, rfl, by omega, by omega, Below.refl _ _⟩
  case round =>
    obtain ⟨z, rfl, z0, z1, hb⟩ := hrel
    have HB := hid hb
    by_cases hz : 0 < z
    · obtain ⟨k, rfl⟩ : ∃ k : Nat, z = (k : Int) + 1 := ⟨(z - 1).toNat, by omega⟩
      have hk : k + 1 < l.length := by omega
      obtain ⟨p, off, rfl, hp, x0, x1, x2⟩ := (HR.out.below hb (Nat.le_refl _)).at (k + 1) hk
      obtain ⟨p', off', e', hp', y0, y1, y2⟩ := (HR.out.below hb (Nat.le_refl _)).at k (by omega)
      simp only [Option.some.injEq, Addr.mk.injEq, and_true] at e'
      obtain ⟨rfl, rfl⟩ := e'
      have hle := HLE.out k hk
      have tx := HT.out (k + 1) hk
      have ty := HT.out k (by omega)
      have HS := hid (fun W => HSUB.out k hk W)
      have gx0 := fun n os => cell_grown (a := ⟨p, off + (k + 1) * 3, none⟩) hp x0 n os
      have gx1 := fun n os => cell_grown (a := ⟨p, off + (k + 1) * 3 + 1, none⟩) hp x1 n os
      have gx2 := fun n os => cell_grown (a := ⟨p, off + (k + 1) * 3 + 2, none⟩) hp x2 n os
      have gy0 := fun n os => cell_grown (a := ⟨p, off + k * 3, none⟩) hp y0 n os
      have gy1 := fun n os => cell_grown (a := ⟨p, off + k * 3 + 1, none⟩) hp y1 n os
      have gy2 := fun n os => cell_grown (a := ⟨p, off + k * 3 + 2, none⟩) hp y2 n os
      clear hb x0 x1 x2 y0 y1 y2 hp hp'
      generalize l.getD (k + 1) zTk = tx' at *
      generalize l.getD k zTk = ty' at *
      obtain ⟨m, e, d⟩ := tx'
      obtain ⟨m', e', d'⟩ := ty'
      obtain ⟨_, _, t1, t2, _, _⟩ := tx
      obtain ⟨_, _, t3, t4, _, _⟩ := ty
      simp only at gx0 gx1 gx2 gy0 gy1 gy2 hle HS t1 t2 t3 t4
      have hd : ¬ d - d' < 0 := by omega
      generalize d - d' = dd at *
      have i0 : (0 : Int) < (k : Int) + 1 := by omega
      have i1 : (k : Int) + 1 < (l.length : Int) := by omega
      have i2 : (k : Int) < (l.length : Int) := by omega
      have i3 : (0 : Int) ≤ (k : Int) + 1 := by omega
      have e0 : ((k : Int) + 1).toNat = k + 1 := by omega
      have hwk : IntKind.i64.wrap (k : Int) = (k : Int) := by rw [IntKind.wrap_i64]; omega
      clear hle t1 t2 t3 t4 hk
      go_wp2_with fail
      go_quiet_grown (first | exact Calls.grown_of (HS.out _))
      go_wp2_with fail
      go_roundw
      case rel => exact ⟨(k : Int), by go_num, by omega, by omega, below_grow HB.out HB.out.size _ _⟩
      case measure => simp [intOf]
    · clear hb
      go_wp2_with fail
      go_ret
      exact ⟨rfl, HB.out⟩
end RankC
end Go.Proofs.Ytnbfadfhpegddaa

/- The walks of RankAudsley and RankDue. -/
set_option linter.unusedVariables false
namespace Go.Proofs.Ytnbfadfhpegddaa
open Go.RowKit hiding tok
open Go.Shelf Go.Sort
open SpanM SupM SpanC TaskM PlayM RankM
open RowsO hiding Tk
namespace RankC
open TaskC (tchk tchkG tchk_zero tchk_of tchk_bd tcheck_any tk_snoc tk_mem)
open NumC (Row)
open RepC (OwnI.row OwnI.set OwnI.frozen OwnI.base' OwnI.made made_zero rchk rchk_zero)
open PlayC (Row.below box_cell box_alloc box_new)
theorem gdE_zero {l : List Tk} {o : List Int} {size : Int} {sl : List Sp} (h : gdE l o size sl = 0) : tchk l = 0 ∧ OrdP l.length o ∧ chk size sl = 0 := by
  unfold gdE at h
  split at h
  · obtain ⟨h1, h2⟩ := ofE_zero ‹_›
    exact ⟨h1, h2, h⟩
  · exact absurd h ‹_›
theorem gdE_ord {l : List Tk} {o : List Int} {size : Int} {sl : List Sp} (h1 : tchk l = 0) (h2 : OrdP l.length o) (h3 : chk size sl = 0) : gdE l o size sl = 0 := by
  unfold gdE ofE
  rw [if_pos h1, if_pos h2, if_pos rfl, h3]
theorem gdB_no {l : List Tk} {o : List Int} {size : Int} {sl : List Sp} (h : gdE l o size sl ≠ 0) : gdB l o size sl = false := by
  unfold gdB
  rw [decide_eq_false (fun k => h k.1)]
/-- where none is found no order is good -/
theorem none_bad {l : List Tk} {o : List Int} {size : Int} {sl : List Sp} (h : rchk l size sl = 0) (hf : fnd l size sl = none) : gdB l o size sl = false := by
  obtain ⟨h1, h2⟩ := rchk_zero h
  have hs := fnd_spec l size sl
  rw [hf] at hs
  by_cases hb : gdB l o size sl = true
  · obtain ⟨e0, hg⟩ := gdB_iff.1 hb
    obtain ⟨_, ho, _⟩ := gdE_zero e0
    refine absurd hg (hs.bad (fun i hi => ?_) rfl o ho.perm.symm)
    obtain ⟨i0, i1⟩ := mem_nums.1 hi
    exact (tchk_zero h1).2 _ (get_mem i0 i1)
  · simpa using hb
theorem some_good {l : List Tk} {q : List Int} {size : Int} {sl : List Sp} (h : rchk l size sl = 0) (hf : fnd l size sl = some q) : gdE l q size sl = 0 ∧ gdB l q size sl = true := by
  obtain ⟨h1, h2⟩ := rchk_zero h
  have hs := fnd_spec l size sl
  rw [hf] at hs
  obtain ⟨p1, p2⟩ := hs.good q rfl
  have e0 := gdE_ord h1 (OrdP.of_perm p1) h2
  exact ⟨e0, gdB_iff.2 ⟨e0, p2⟩⟩
theorem due_ok {l : List Tk} {o : List Int} {size : Int} {sl : List Sp} (h : gdB l o size sl = true) : gdE l (ordE (fun x => x.2.2) l) size sl = 0 ∧ gdB l (ordE (fun x => x.2.2) l) size sl = true := by
  obtain ⟨e0, hg⟩ := gdB_iff.1 h
  obtain ⟨h1, ho, h3⟩ := gdE_zero e0
  have hq : ByP (fun x => x.2.2) l (ordE (fun x => x.2.2) l) := by unfold ordE; rw [if_pos h1]; exact ordBy_byP _ _
  have e1 := gdE_ord h1 hq.1 h3
  exact ⟨e1, gdB_iff.2 ⟨e1, due_good (tchk_zero h1).2 ho hq hg⟩⟩
theorem every_ok {l : List Tk} {o : List Int} {size : Int} {sl : List Sp} (hd : ∀ x ∈ l, x.2.2 = x.2.1) (h : gdB l o size sl = true) : gdE l (ordE (fun x => x.2.1) l) size sl = 0 ∧ gdB l (ordE (fun x => x.2.1) l) size sl = true := by
  obtain ⟨e0, hg⟩ := gdB_iff.1 h
  obtain ⟨h1, ho, h3⟩ := gdE_zero e0
  have hq : ByP (fun x => x.2.1) l (ordE (fun x => x.2.1) l) := by unfold ordE; rw [if_pos h1]; exact ordBy_byP _ _
  have e1 := gdE_ord h1 hq.1 h3
  exact ⟨e1, gdB_iff.2 ⟨e1, every_good (tchk_zero h1).2 hd ho hq hg⟩⟩
set_option maxRecDepth 20000 in
set_option maxHeartbeats 1600000 in
theorem rankAudsley_any (l : List Tk) (o : List Int) (size : Int) (sl : List Sp) (a b c : Option Addr) (ca cb cc : Nat) (w : World) (hr : Tks w a l) (hr2 : Row w b o) (hs : Sps w c sl) (hc : l.length ≤ ca) :
    Calls Try.prog 5 #[.slice a l.length ca, .slice b o.length cb, .agg #[.int .i64 size, .slice c sl.length cc]] w fun e w' => e = .returned (.bool true) ∧ Below w.heap.size w w' := by
  have HF := hid (fun (W : World) (h : Below w.heap.size w W) => Find_any l size sl a c ca cc W (hr.below h (Nat.le_refl _)) (hs.below h (Nat.le_refl _)) hc)
  have HG := hid (fun (q : List Int) (p : Option Addr) (k : Nat) (W : World) (h : Below w.heap.size w W) (hq : Row W p q) => Good_any l q size sl a p c ca k cc W (hr.below h (Nat.le_refl _)) hq (hs.below h (Nat.le_refl _)) hc)
  have HGO := hid (fun (W : World) (h : Below w.heap.size w W) => Good_any l o size sl a b c ca cb cc W (hr.below h (Nat.le_refl _)) (Row.below hr2 h (Nat.le_refl _)) (hs.below h (Nat.le_refl _)) hc)
  have hL := hid lives
  clear hr hr2 hs
  by_cases h0 : rchk l size sl = 0
  · have eE : fndE l size sl = someE (fnd l size sl) := by unfold fndE; rw [if_pos h0]
    have eL : fndL l size sl = (fnd l size sl).getD [] := by unfold fndL; rw [if_pos h0]
    rw [eE, eL] at HF
    cases hf : fnd l size sl with
    | none =>
      rw [hf] at HF
      have hbad := none_bad (o := o) h0 hf
      rw [hbad] at HGO
      simp only [someE, Option.getD_none] at HF
      clear h0 eE eL hf hbad HG
      by_cases hz : gdE l o size sl = 0
      all_goals
        first | rw [hz] at HGO | have hn : (gdE l o size sl != 0) = true := by simpa using hz
        try generalize gdE l o size sl = z at *
        clear hz
        go_enter Try.func5, Try.ntmps5
        go_wp2_with fail
        refine (HF.out _ (B1.start w _ _).bel).mono ?_
        rintro e w1 ⟨⟨v, rfl, ho⟩, b1⟩
        have HB1 := hid ((B1.start w #[.int .i64 size, .slice c sl.length cc] 26).step b1)
        obtain ⟨a1, k1, rfl, hr1, _⟩ := OwnI.row ho
        clear b1 ho hr1
        go_wp2_with fail
        refine (hL.out _).mono ?_
        rintro e w2 ⟨rfl, b2⟩
        have HB2 := hid (HB1.out.step b2)
        have c0 := HB2.out.c0 0
        have c1 := HB2.out.c0 1
        simp at c0 c1
        clear b2
        go_wp2_with fail
        refine (HGO.out _ HB2.out.bel).mono ?_
        rintro e w3 ⟨rfl, b3⟩
        have HB3 := hid (HB2.out.step b3)
        clear b3 c0 c1
        go_wp2_with fail
        go_ret
        exact ⟨rfl, HB3.out.bel⟩
    | some q =>
      rw [hf] at HF
      obtain ⟨g1, g2⟩ := some_good h0 hf
      have HGQ := hid (fun (p : Option Addr) (k : Nat) (W : World) (h : Below w.heap.size w W) (hq : Row W p q) => HG.out q p k W h hq)
      rw [g1, g2] at HGQ
      simp only [someE, Option.getD_some] at HF
      clear h0 eE eL hf HG g1 g2
      generalize gdE l o size sl = z at *
      generalize gdB l o size sl = y at *
      go_enter Try.func5, Try.ntmps5
      go_wp2_with fail
      refine (HF.out _ (B1.start w _ _).bel).mono ?_
      rintro e w1 ⟨⟨v, rfl, ho⟩, b1⟩
      have HB1 := hid ((B1.start w #[.int .i64 size, .slice c sl.length cc] 26).step b1)
      obtain ⟨a1, k1, rfl, hr1, _⟩ := OwnI.row ho
      have HR1 := hid hr1
      clear b1 ho hr1
      go_wp2_with fail
      refine (hL.out _).mono ?_
      rintro e w2 ⟨rfl, b2⟩
      have HB2 := hid (HB1.out.step b2)
      have HR2 := hid (Row.below HR1.out b2 (Nat.le_refl _))
      have c0 := HB2.out.c0 0
      have c1 := HB2.out.c0 1
      simp at c0 c1
      clear b2
      go_wp2_with fail
      refine (HGO.out _ HB2.out.bel).mono ?_
      rintro e w3 ⟨rfl, b3⟩
      have HB3 := hid (HB2.out.step b3)
      have HR3 := hid (Row.below HR2.out b3 (Nat.le_refl _))
      clear b3 c0 c1
      have c0 := HB3.out.c0 0
      have c1 := HB3.out.c0 1
      simp at c0 c1
      go_wp2_with fail
      refine (HGQ.out _ _ _ HB3.out.bel HR3.out).mono ?_
      rintro e w4 ⟨rfl, b4⟩
      have HB4 := hid (HB3.out.step b4)
      clear b4 c0 c1
      go_wp2_with fail
      go_ret
      exact ⟨rfl, HB4.out.bel⟩
  · have eE : fndE l size sl = rchk l size sl := by unfold fndE; rw [if_neg h0]
    have eL : fndL l size sl = [] := by unfold fndL; rw [if_neg h0]
    rw [eE, eL] at HF
    have n0 : (rchk l size sl != 0) = true := by simpa using h0
    have n11 : (rchk l size sl != 11) = true := by simpa using rchk_11 l size sl
    clear h0 eE eL HG HGO
    generalize rchk l size sl = z at *
    go_enter Try.func5, Try.ntmps5
    go_wp2_with fail
    refine (HF.out _ (B1.start w _ _).bel).mono ?_
    rintro e w1 ⟨⟨v, rfl, ho⟩, b1⟩
    have HB1 := hid ((B1.start w #[.int .i64 size, .slice c sl.length cc] 26).step b1)
    obtain ⟨a1, k1, rfl, hr1, _⟩ := OwnI.row ho
    clear b1 ho hr1
    simp only [List.length_nil]
    go_wp2_with fail
    refine (hL.out _).mono ?_
    rintro e w2 ⟨rfl, b2⟩
    have HB2 := hid (HB1.out.step b2)
    clear b2
    go_wp2_with fail
    refine (hL.out _).mono ?_
    rintro e w3 ⟨rfl, b3⟩
    have HB3 := hid (HB2.out.step b3)
    clear b3
    go_wp2_with fail
    go_ret
    exact ⟨rfl, HB3.out.bel⟩
theorem rankAudsley_walk (a0 : Option Addr) (len0 cap0 : Nat) (l0 : List TaskM.Tk) (a1 : Option Addr) (len1 cap1 : Nat) (l1 : List Int) (s2 : Int) (a2 : Option Addr) (len2 cap2 : Nat) (l2 : List Sp) (w : World)
    (w0 : RowsO.IsTks w a0 len0 cap0 l0) (w1 : RowsO.IsIns w a1 len1 cap1 l1) (x2 : SpanC.wf64 s2) (w2 : SpanC.IsSps w a2 len2 cap2 l2) :
    Calls Try.prog 5 #[.slice a0 len0 cap0, .slice a1 len1 cap1, .agg #[.int .i64 s2, .slice a2 len2 cap2]] w fun e w' => e = .returned (.bool true) ∧ Below w.heap.size w w' := by
  obtain ⟨rfl, hc, _, hr, _⟩ := w0
  obtain ⟨rfl, _, _, hf, _⟩ := w1
  obtain ⟨rfl, _, _, hs, _⟩ := w2
  exact rankAudsley_any l0 l1 s2 l2 a0 a1 a2 cap0 cap1 cap2 w hr hf hs hc
set_option maxRecDepth 20000 in
set_option maxHeartbeats 1600000 in
theorem rankDue_any (l : List Tk) (o : List Int) (size : Int) (sl : List Sp) (a b c : Option Addr) (ca cb cc : Nat) (w : World) (hr : Tks w a l) (hr2 : Row w b o) (hs : Sps w c sl) (hc : l.length ≤ ca) :
    Calls Try.prog 6 #[.slice a l.length ca, .slice b o.length cb, .agg #[.int .i64 size, .slice c sl.length cc]] w fun e w' => e = .returned (.bool true) ∧ Below w.heap.size w w' := by
  have HG := hid (fun (q : List Int) (p : Option Addr) (k : Nat) (W : World) (h : Below w.heap.size w W) (hq : Row W p q) => Good_any l q size sl a p c ca k cc W (hr.below h (Nat.le_refl _)) hq (hs.below h (Nat.le_refl _)) hc)
  have HGO := hid (fun (W : World) (h : Below w.heap.size w W) => Good_any l o size sl a b c ca cb cc W (hr.below h (Nat.le_refl _)) (Row.below hr2 h (Nat.le_refl _)) (hs.below h (Nat.le_refl _)) hc)
  have HD := hid (fun (W : World) (h : Below w.heap.size w W) => ByDue_any l a ca W (hr.below h (Nat.le_refl _)))
  have hL := hid lives
  clear hr hr2 hs
  by_cases hb : gdB l o size sl = true
  · obtain ⟨g1, g2⟩ := due_ok hb
    have e0 := (gdB_iff.1 hb).1
    have h1 := (gdE_zero e0).1
    have HGQ := hid (fun (p : Option Addr) (k : Nat) (W : World) (h : Below w.heap.size w W) (hq : Row W p (ordE (fun x => x.2.2) l)) => HG.out _ p k W h hq)
    rw [g1, g2] at HGQ
    rw [hb, e0] at HGO
    rw [h1] at HD
    clear hb g1 g2 e0 h1 HG
    generalize ordE (fun x => x.2.2) l = q at *
    go_enter Try.func6, Try.ntmps6
    go_wp2_with fail
    refine (HGO.out _ (B1.start w _ _).bel).mono ?_
    rintro e w1 ⟨rfl, b1⟩
    have HB1 := hid ((B1.start w #[.int .i64 size, .slice c sl.length cc] 26).step b1)
    clear b1
    go_wp2_with fail
    refine (HD.out _ HB1.out.bel).mono ?_
    rintro e w2 ⟨⟨v, rfl, ho⟩, b2⟩
    have HB2 := hid (HB1.out.step b2)
    obtain ⟨a1, k1, rfl, hr1, _⟩ := OwnI.row ho
    have HR2 := hid hr1
    clear b2 ho hr1
    go_wp2_with fail
    refine (hL.out _).mono ?_
    rintro e w3 ⟨rfl, b3⟩
    have HB3 := hid (HB2.out.step b3)
    have HR3 := hid (Row.below HR2.out b3 (Nat.le_refl _))
    clear b3
    have c0 := HB3.out.c0 0
    have c1 := HB3.out.c0 1
    simp at c0 c1
    go_wp2_with fail
    refine (HGQ.out _ _ _ HB3.out.bel HR3.out).mono ?_
    rintro e w4 ⟨rfl, b4⟩
    have HB4 := hid (HB3.out.step b4)
    clear b4 c0 c1
    go_wp2_with fail
    go_ret
    exact ⟨rfl, HB4.out.bel⟩
  · have hb2 : gdB l o size sl = false := by simpa using hb
    have hcase : gdE l o size sl ≠ 0 ∨ (gdE l o size sl = 0 ∧ tchk l = 0) := by
      by_cases h : gdE l o size sl = 0
      · exact .inr ⟨h, (gdE_zero h).1⟩
      · exact .inl h
    rw [hb2] at HGO
    clear hb hb2 HG
    generalize ordE (fun x => x.2.2) l = q at *
    rcases hcase with hz | ⟨hz, ht⟩
    all_goals
      first | (rw [hz] at HGO; rw [ht] at HD; clear ht) | have hn : (gdE l o size sl != 0) = true := by simpa using hz
      try generalize gdE l o size sl = z at *
      try generalize tchk l = y at *
      clear hz
      go_enter Try.func6, Try.ntmps6
      go_wp2_with fail
      refine (HGO.out _ (B1.start w _ _).bel).mono ?_
      rintro e w1 ⟨rfl, b1⟩
      have HB1 := hid ((B1.start w #[.int .i64 size, .slice c sl.length cc] 26).step b1)
      clear b1
      go_wp2_with fail
      refine (HD.out _ HB1.out.bel).mono ?_
      rintro e w2 ⟨⟨v, rfl, ho⟩, b2⟩
      have HB2 := hid (HB1.out.step b2)
      obtain ⟨a1, k1, rfl, hr1, _⟩ := OwnI.row ho
      clear b2 ho hr1
      go_wp2_with fail
      refine (hL.out _).mono ?_
      rintro e w3 ⟨rfl, b3⟩
      have HB3 := hid (HB2.out.step b3)
      clear b3
      go_wp2_with fail
      refine (hL.out _).mono ?_
      rintro e w4 ⟨rfl, b4⟩
      have HB4 := hid (HB3.out.step b4)
      clear b4
      go_wp2_with fail
      go_ret
      exact ⟨rfl, HB4.out.bel⟩
theorem rankDue_walk (a0 : Option Addr) (len0 cap0 : Nat) (l0 : List TaskM.Tk) (a1 : Option Addr) (len1 cap1 : Nat) (l1 : List Int) (s2 : Int) (a2 : Option Addr) (len2 cap2 : Nat) (l2 : List Sp) (w : World)
    (w0 : RowsO.IsTks w a0 len0 cap0 l0) (w1 : RowsO.IsIns w a1 len1 cap1 l1) (x2 : SpanC.wf64 s2) (w2 : SpanC.IsSps w a2 len2 cap2 l2) :
    Calls Try.prog 6 #[.slice a0 len0 cap0, .slice a1 len1 cap1, .agg #[.int .i64 s2, .slice a2 len2 cap2]] w fun e w' => e = .returned (.bool true) ∧ Below w.heap.size w w' := by
  obtain ⟨rfl, hc, _, hr, _⟩ := w0
  obtain ⟨rfl, _, _, hf, _⟩ := w1
  obtain ⟨rfl, _, _, hs, _⟩ := w2
  exact rankDue_any l0 l1 s2 l2 a0 a1 a2 cap0 cap1 cap2 w hr hf hs hc
end RankC
end Go.Proofs.Ytnbfadfhpegddaa

/- The walk of RankOrder. -/
set_option linter.unusedVariables false
namespace Go.Proofs.Ytnbfadfhpegddaa
open Go.RowKit hiding tok
open Go.Shelf Go.Sort
open SpanM SupM SpanC TaskM PlayM RankM
open RowsO hiding Tk
namespace RankC
open TaskC (tchk tchkG tchk_zero tchk_of tchk_bd tcheck_any tk_snoc tk_mem)
open NumC (Row)
open RepC (OwnI.row OwnI.set OwnI.frozen OwnI.base' OwnI.made made_zero rchk rchk_zero)
open PlayC (Row.below box_cell box_alloc box_new)
theorem ofE_ok {l : List Tk} {o : List Int} (h1 : tchk l = 0) (h2 : OrdP l.length o) : ofE l o = 0 ∧ ofL l o = ord l o := by
  unfold ofE ofL
  rw [if_pos h1, if_pos h2, if_pos ⟨h1, h2⟩]
  exact ⟨rfl, rfl⟩
set_option maxRecDepth 20000 in
set_option maxHeartbeats 1600000 in
theorem rankOrder_any (l : List Tk) (o : List Int) (a b : Option Addr) (ca cb : Nat) (w : World) (hr : Tks w a l) (hr2 : Row w b o) (hc : l.length ≤ ca) :
    Calls Try.prog 8 #[.slice a l.length ca, .slice b o.length cb] w fun e w' => e = .returned (.bool true) ∧ Below w.heap.size w w' := by
  have HO := hid (Of_any l o a b ca cb w hr hr2 hc)
  have hL := hid lives
  by_cases h0 : ofE l o = 0
  · obtain ⟨h1, h2⟩ := ofE_zero h0
    have e2 := (ofE_ok h1 h2).2
    rw [h0, e2] at HO
    have hl := (tchk_zero h1).1
    have hol := h2.1
    have HML := hid (show (ord l o).length = l.length by rw [ord_len, hol])
    have HM2 := hid (fun (bb : List Int) (p : Option Addr) (k : Nat) (W : World) (am : Option Addr) (cm : Nat) (hm : Tks W am (ord l o)) (hb : Row W p bb) (hcm : (ord l o).length ≤ cm) (hbk : Bk o l.length l.length bb) => (by
      have hb2 := hbk.ord h2
      have t0 := tchk_ord (o := o) h1 (fun i hi => h2.bd hi) (by omega)
      have ok := ofE_ok (l := ord l o) (o := bb) t0 (by rw [ord_len, hol]; exact hb2)
      have := Of_any (ord l o) bb am p cm k W hm hb hcm
      rw [ok.1, ok.2, hbk.back h2, hbk.1] at this
      exact this : Calls Try.prog 11 #[.slice am (ord l o).length cm, .slice p l.length k] W fun e w' => (∃ v, e = .returned (.tuple #[v, .int .i64 0]) ∧ OwnTk w' W.heap.size v l) ∧ Below W.heap.size W w'))
    have hq : ByP (fun x => x.2.2) l (ordE (fun x => x.2.2) l) := by unfold ordE; rw [if_pos h1]; exact ordBy_byP _ _
    have HA := hid (fun (W : World) (h : Below w.heap.size w W) => ByDue_any l a ca W (hr.below h (Nat.le_refl _)))
    rw [h1] at HA
    have HZ := hid (fun (p : Option Addr) (k : Nat) (W : World) (h : Below w.heap.size w W) (hp : Row W p (ordE (fun x => x.2.2) l)) => (by
      have ok := ofE_ok h1 hq.1
      have := Of_any l (ordE (fun x => x.2.2) l) a p ca k W (hr.below h (Nat.le_refl _)) hp hc
      rw [ok.1, ok.2] at this
      exact this : Calls Try.prog 11 #[.slice a l.length ca, .slice p (ordE (fun x => x.2.2) l).length k] W fun e w' => (∃ v, e = .returned (.tuple #[v, .int .i64 0]) ∧ OwnTk w' W.heap.size v (ord l (ordE (fun x => x.2.2) l))) ∧ Below W.heap.size W w'))
    have HEQ := hid (fun (p : Option Addr) (k : Nat) (W : World) (h : Below w.heap.size w W) (hp : Tks W p l) => tequal_same p a l.length k ca l W hp (hr.below h (Nat.le_refl _)) rfl (by omega))
    have HRT := hid (fun (p : Option Addr) (k : Nat) (W : World) (hp : Row W p (ordE (fun x => x.2.2) l)) => (by
      have := rightOrder_any (ordE (fun x => x.2.2) l) l.length p k W hp (by rw [hq.1.1]; omega)
      rw [decide_eq_true hq.1] at this
      exact this : Calls Try.prog 18 #[.int .i64 l.length, .slice p (ordE (fun x => x.2.2) l).length k] W fun e w' => e = .returned (.bool true) ∧ Below W.heap.size W w'))
    have HSR := hid (fun (p : Option Addr) (k : Nat) (W : World) (hp : Tks W p (ord l (ordE (fun x => x.2.2) l))) => isSorted_any (ord l (ordE (fun x => x.2.2) l)) p k W hp (by rw [ord_len, hq.1.1]; exact hl) (tok_ord (tchk_zero h1).2 (fun i hi => hq.1.bd hi)) hq.sorted)
    have HBS := hid (fun (k : Nat) (bb : List Int) (h : Bk o l.length k bb) (hk : k < l.length) => h.step h2 hk)
    have HBD := hid (fun (k : Nat) (hk : k < l.length) => ord_bd h2 hk)
    have HB0 := hid (Bk.zero o l.length)
    have HR2 := hid hr2
    have HBL := hid (fun (k : Nat) (bb : List Int) (h : Bk o l.length k bb) => h.1)
    obtain ⟨i0, hi, hz0, hz1, hz2⟩ := info_parts infoInt
    have Hi := hid hi
    have Hz0 := hid hz0
    have Hz1 := hid hz1
    have Hz2 := hid hz2
    have HOL := hid hol
    rw [hol]
    rw [hol] at HO
    clear hr hr2 h0 h1 h2 e2 hol hq hi hz0 hz1 hz2
    generalize ord l (ordE (fun x => x.2.2) l) = Z at *
    generalize ordE (fun x => x.2.2) l = q at *
    generalize ord l o = M at *
    generalize Bk o l.length = BK at *
    generalize hn : l.length = n at *
    have HN := hid hn
    clear hn
    go_enter Try.func8, Try.ntmps8
    go_wp2_with fail
    refine HO.out.mono ?_
    rintro e w1 ⟨⟨v, rfl, ho⟩, b1⟩
    obtain ⟨am, cm, rfl, hm, hcm, _, _⟩ := OwnTk.rows' ho
    have HB1 := hid b1
    have HM1 := hid hm
    have HCM := hid hcm
    clear ho b1 hm hcm
    go_wp2_with fail
    refine (hL.out _).mono ?_
    rintro e w2 ⟨rfl, b2⟩
    have HB2 := hid (bel_of HB1.out b2)
    have HM2' := hid (HM1.out.below b2 (Nat.le_refl _))
    clear b2
    go_wp2_with (at_make; refine wpList_make_full _ rfl _ _ 23 rfl w2.heap.size 3 i0 (.int .i64 0) 1 Try.underlying23 Hi.out Hz0.out Hz1.out _ _ _ _ n rfl rfl ?qc1 ?qc2 ?qc3 ?qc4 ?qc5 ?_)
    case qc1 => rfl
    case qc2 => rfl
    case qc3 => rw [Hz2.out]; omega
    case qc4 => unfold maxLen; omega
    case qc5 => exact Nat.le_refl _
    intro w3 hown hgrow
    have HB3 := hid (Below.grown (Below.refl w2.heap.size w2) hgrow (Nat.le_refl _) (fun k hk => by simp at hk))
    have HO3 := hid (OwnI.made hown)
    clear hown hgrow
    obtain ⟨g, hg⟩ : ∃ g, g = w2.heap.size := ⟨_, rfl⟩
    have HG := hid hg
    rw [← hg] at HB3 HO3
    rw [← hg]
    clear hg
    go_wp2_with fail
    go_loopw [39] (fun v39 wr => ∃ (k : Nat) (bb : List Int), k ≤ n ∧ v39 = .int .i64 k ∧ BK k bb ∧ OwnI wr g (vS g n n) bb ∧ Below g w2 wr) (fun v39 _ => n - (intOf v39).toNat)
    case atStart => exact ⟨0, _, by omega, rfl, HB0.out, HO3.out, HB3.out⟩
    case round =>
      obtain ⟨k, bb, hk, rfl, hbk, ho, hb⟩ := hrel
      have HO := hid ho
      have HB := hid hb
      have HBK := hid hbk
      have HBW := hid (bel_of HB2.out (show Below w2.heap.size w2 wr by rw [← HG.out]; exact hb))
      have HLB := hid (show n = bb.length from (HBL.out k bb hbk).symm)
      have HSZ := hid (show g ≤ wr.heap.size by have := HG.out; have := hb.size; omega)
      by_cases hlt : k < n
      · obtain ⟨p, off, rfl, _, d1⟩ := PlayC.Row.at (Row.below HR2.out HBW.out (Nat.le_refl _)) k (by have := HOL.out; omega)
        obtain ⟨x0, x1⟩ := HBD.out k hlt
        have HNX := hid (HBS.out k bb hbk hlt)
        generalize o.getD k 0 = x at *
        obtain ⟨i, rfl⟩ : ∃ i : Nat, x = i := ⟨x.toNat, by omega⟩
        rw [Int.toNat_natCast] at HNX
        have y0 := OwnI.cell ho i (by have := HLB.out; omega)
        have y1 := OwnI.frozen ho HLB.out i
        have HST := hid (OwnI.set ho HLB.out i (k : Int))
        have j0 : ¬ (i : Int) < 0 := by omega
        have j1 : ¬ (n : Int) ≤ (i : Int) := by omega
        have j2 : (k : Int) < (n : Int) := by omega
        clear ho hb hbk
        go_wp2_with fail
        obtain ⟨o4, g4⟩ := HST.out
        have HB4 := hid (Below.grown HB.out g4 HSZ.out (fun j hj => by simp at hj; omega))
        clear y0 y1 g4 d1
        go_roundw
        case rel => exact ⟨k + 1, _, by omega, by go_num, HNX.out, o4, HB4.out⟩
        case measure => simp [intOf]; omega
      · obtain rfl : k = n := by omega
        obtain ⟨pb, kb, e', hrb, _⟩ := OwnI.row ho
        simp only [Value.slice.injEq] at e'
        have HRB := hid (show Row wr (some ⟨g, 0, none⟩) bb by rw [e'.1]; exact hrb)
        have hmw := HM2'.out.below (show Below w2.heap.size w2 wr by rw [← HG.out]; exact hb) (Nat.le_refl _)
        have HC4 := hid (HM2.out bb (some ⟨g, 0, none⟩) k wr am cm hmw HRB.out HCM.out hbk)
        clear ho hb hbk hrb e' hmw
        go_wp2_with fail
        refine HC4.out.mono ?_
        rintro e w4 ⟨⟨v, rfl, ho⟩, b4⟩
        have HB4 := hid (bel_of HBW.out b4)
        obtain ⟨an, cn, rfl, hnl, _, _, _⟩ := OwnTk.rows' ho
        have HT4 := hid hnl
        rw [HN.out]
        clear ho b4 hnl
        go_wp2_with fail
        refine (HA.out _ HB4.out).mono ?_
        rintro e w5 ⟨⟨v, rfl, ho⟩, b5⟩
        have HB5 := hid (bel_of HB4.out b5)
        have HT5 := hid (HT4.out.below b5 (Nat.le_refl _))
        obtain ⟨aq, cq, rfl, hq, _⟩ := OwnI.row ho
        have HQ5 := hid hq
        clear ho b5 hq
        go_wp2_with fail
        refine (HZ.out _ _ _ HB5.out HQ5.out).mono ?_
        rintro e w6 ⟨⟨v, rfl, ho⟩, b6⟩
        have HB6 := hid (bel_of HB5.out b6)
        have HT6 := hid (HT5.out.below b6 (Nat.le_refl _))
        have HQ6 := hid (Row.below HQ5.out b6 (Nat.le_refl _))
        obtain ⟨az, cz, rfl, hz, _, _, _⟩ := OwnTk.rows' ho
        have HZ6 := hid hz
        clear ho b6 hz
        go_wp2_with fail
        refine (HEQ.out _ _ _ HB6.out HT6.out).mono ?_
        rintro e w7 ⟨rfl, b7⟩
        have HB7 := hid (bel_of HB6.out b7)
        have HQ7 := hid (Row.below HQ6.out b7 (Nat.le_refl _))
        have HZ7 := hid (HZ6.out.below b7 (Nat.le_refl _))
        clear b7
        go_wp2_with fail
        refine (HRT.out _ _ _ HQ7.out).mono ?_
        rintro e w8 ⟨rfl, b8⟩
        have HB8 := hid (bel_of HB7.out b8)
        have HZ8 := hid (HZ7.out.below b8 (Nat.le_refl _))
        clear b8
        go_wp2_with fail
        refine (HSR.out _ _ _ HZ8.out).mono ?_
        rintro e w9 ⟨rfl, b9⟩
        have HB9 := hid (bel_of HB8.out b9)
        clear b9
        go_wp2_with fail
        go_ret
        exact ⟨rfl, HB9.out⟩
  · have e2 : ofL l o = [] := by
      unfold ofL
      rw [if_neg]
      rintro ⟨h1, h2⟩
      exact h0 (ofE_ok h1 h2).1
    rw [e2] at HO
    have hn : (ofE l o != 0) = true := by simpa using h0
    clear hr hr2 h0 e2
    generalize ofE l o = z at *
    go_enter Try.func8, Try.ntmps8
    go_wp2_with fail
    refine HO.out.mono ?_
    rintro e w1 ⟨⟨v, rfl, ho⟩, b1⟩
    obtain ⟨am, cm, rfl, hm, hcm, _, _⟩ := OwnTk.rows' ho
    have HB1 := hid b1
    clear ho b1 hm hcm
    simp only [List.length_nil]
    go_wp2_with fail
    refine (hL.out _).mono ?_
    rintro e w2 ⟨rfl, b2⟩
    have HB2 := hid (bel_of HB1.out b2)
    clear b2
    go_wp2_with fail
    refine (hL.out _).mono ?_
    rintro e w3 ⟨rfl, b3⟩
    have HB3 := hid (bel_of HB2.out b3)
    clear b3
    go_wp2_with fail
    go_ret
    exact ⟨rfl, HB3.out⟩
theorem rankOrder_walk (a0 : Option Addr) (len0 cap0 : Nat) (l0 : List TaskM.Tk) (a1 : Option Addr) (len1 cap1 : Nat) (l1 : List Int) (w : World)
    (w0 : RowsO.IsTks w a0 len0 cap0 l0) (w1 : RowsO.IsIns w a1 len1 cap1 l1) :
    Calls Try.prog 8 #[.slice a0 len0 cap0, .slice a1 len1 cap1] w fun e w' => e = .returned (.bool true) ∧ Below w.heap.size w w' := by
  obtain ⟨rfl, hc, _, hr, _⟩ := w0
  obtain ⟨rfl, _, _, hf, _⟩ := w1
  exact rankOrder_any l0 l1 a0 a1 cap0 cap1 w hr hf hc
end RankC
end Go.Proofs.Ytnbfadfhpegddaa
