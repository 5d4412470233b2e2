/- Several texts, one behind the other: RnkI. -/
import Derived.Test.YtnbfadfhpegddaaKRnkH
import Derived.Laws.StructEq
/- Contracts: slices.Equal of tasks (of the same ones), OrderRight, slices.IsSortedFunc at RankOrder's closure. -/
set_option linter.unusedVariables false
namespace Go.Proofs.Ytnbfadfhpegddaa
open Go.RowKit hiding tok
open Go.Shelf Go.Sort
open SpanM SupM SpanC TaskM PlayM RankM
open RowsO hiding Tk
namespace RankC
open TaskC (tchk tchkG tchk_zero tchk_of tchk_bd tcheck_any tk_snoc tk_mem)
open NumC (Row)
open RepC (OwnI.row OwnI.set OwnI.frozen OwnI.base' OwnI.made made_zero rchk rchk_zero)
open PlayC (Row.below box_cell box_alloc box_new)
theorem neqT (x0 x1 x2 y0 y1 y2 : Int) (w : World) : (binOp .neq 38 (.agg #[.int .i64 x0, .int .i64 x1, .int .i64 x2]) (.agg #[.int .i64 y0, .int .i64 y1, .int .i64 y2])).run Try.prog w = .ok (.bool (decide (¬ (x0 = y0 ∧ x1 = y1 ∧ x2 = y2)))) w := by
  have u3 := Try.underlying3
  have a3 := Try.isAgg3
  have z3 := Try.sizeOf3
  have hS : Try.prog.underlying 38 = some (.struct (Try.prog.fieldsOf 38)) := by kernel_rfl
  have hp : Try.prog.stoodInHeld 38 = false := by kernel_rfl
  rw [run_neq_struct, show (10000 : Nat) = 9999 + 1 from rfl, run_equalIn_agg w 9999 38 _ _ hS hp]
  simp only [Program.fieldsOf, Try.underlying38]
  go_simp
  by_cases h1 : x0 = y0 <;> by_cases h2 : x1 = y1 <;> by_cases h3 : x2 = y2 <;> simp [h1, h2, h3]
theorem guardT : Try.prog.eqGuardType Try.prog.depth 38 = false := by kernel_rfl
set_option maxRecDepth 20000 in
set_option maxHeartbeats 1600000 in
theorem tequal_same (a b : Option Addr) (n ca cb : Nat) (l : List Tk) (w : World) (ha : Tks w a l) (hb : Tks w b l) (hn : n = l.length) (hl : n ≤ 100000) :
    Calls Try.prog 20 #[.slice a n ca, .slice b n cb] w fun e w' => e = .returned (.bool true) ∧ Below w.heap.size w w' := by
  have hne : ((n : Int) != (n : Int)) = false := by simp
  have HA := hid ha
  have HB := hid hb
  have HN := hid hn
  have mixed := mixd
  clear ha hb hn
  go_enter Try.func20, Try.ntmps20
  go_wp2_with fail
  go_loopw [13] (fun vk wr => ∃ k : Nat, k ≤ n ∧ vk = .int .i64 k ∧ Below w.heap.size w wr) (fun vk _ => n - (intOf vk).toNat)
  case atStart => exact ⟨0, by omega, rfl, Below.refl _ _⟩
  case round =>
    obtain ⟨k, hk, rfl, hbel⟩ := hrel
    have HBL := hid hbel
    by_cases hlt : k < n
    · obtain ⟨p, off, hpa, _, a0, a1, a2⟩ := (HA.out.below hbel (Nat.le_refl _)).at k (by have := HN.out; omega)
      obtain ⟨q, off2, hqb, _, b0, b1, b2⟩ := (HB.out.below hbel (Nat.le_refl _)).at k (by have := HN.out; omega)
      subst hpa
      subst hqb
      generalize l.getD k zTk = x at *
      obtain ⟨x0, x1, x2⟩ := x
      simp only at a0 a1 a2 b0 b1 b2
      have i1 : (k : Int) < (n : Int) := by omega
      clear hbel
      have hnq := fun W => neqT x0 x1 x2 x0 x1 x2 W
      have hgd := guardT
      have hd : decide (¬ (x0 = x0 ∧ x1 = x1 ∧ x2 = x2)) = false := by simp
      rw [hd] at hnq
      clear hd
      go_wp2_with fail
      go_quiet (fail)
      go_wp2_with fail
      go_roundw
      case rel => exact ⟨k + 1, by omega, by go_num, below_drewN HBL.out _⟩
      case measure => simp [intOf]; omega
    · go_wp2_with fail
      go_ret
      exact ⟨rfl, HBL.out⟩
set_option maxRecDepth 20000 in
set_option maxHeartbeats 800000 in
theorem rightOrder_any (o : List Int) (n : Nat) (a : Option Addr) (ca : Nat) (w : World) (hr : Row w a o) (hl : o.length ≤ 100000) :
    Calls Try.prog 18 #[.int .i64 n, .slice a o.length ca] w fun e w' => e = .returned (.bool (decide (OrdP n o))) ∧ Below w.heap.size w w' := by
  by_cases hln : o.length = n
  · have HC := hid (fun (W : World) (i : Int) (h : Below w.heap.size w W) => icontains_any a ca o i W (Row.below hr h (Nat.le_refl _)) hl)
    have HYES := hid (fun (h : ∀ i : Nat, i < n → (i : Int) ∈ o) => (decide_eq_true (p := OrdP n o) ⟨hln, h⟩ : decide (OrdP n o) = true))
    have HNO := hid (fun (k : Nat) (hk : k < n) (h : (k : Int) ∉ o) => decide_eq_false (fun q : OrdP n o => h (q.2 k hk)))
    clear hr
    generalize decide (OrdP n o) = R at *
    have hn1 : ((o.length : Int) != (n : Int)) = false := by simp [hln]
    have hnb : n ≤ 100000 := by omega
    rw [hln]
    rw [hln] at hn1 HC
    clear hln hl
    go_enter Try.func18, Try.ntmps18
    go_wp2_with fail
    go_loopw [11] (fun v11 wr => ∃ k : Nat, k ≤ n ∧ v11 = .int .i64 k ∧ Hid (∀ i : Nat, i < k → (i : Int) ∈ o) ∧ Below w.heap.size w wr) (fun v11 _ => n - (intOf v11).toNat)
    case atStart => exact ⟨0, by omega, rfl, fun i h => by omega, Below.refl _ _⟩
    case round =>
      obtain ⟨k, hk, rfl, HA, hb⟩ := hrel
      have HB := hid hb
      by_cases hlt : k < n
      · have hki : (k : Int) < (n : Int) := by omega
        have HCK := hid (HC.out wr k hb)
        have HX := hid (HNO.out k hlt)
        clear hb
        by_cases hm : (k : Int) ∈ o
        · rw [decide_eq_true hm] at HCK
          have HA2 : Hid (∀ i : Nat, i < k + 1 → (i : Int) ∈ o) := fun i hi => by
            by_cases c : i = k
            · subst c; exact hm
            · exact HA.out i (by omega)
          clear hm
          go_wp2_with fail
          refine HCK.out.mono ?_
          rintro e w1 ⟨rfl, b1⟩
          have HB1 := hid (bel_of HB.out b1)
          clear b1
          go_wp2_with fail
          go_roundw
          case rel => exact ⟨k + 1, by omega, by go_num, HA2, HB1.out⟩
          case measure => simp [intOf]; omega
        · rw [decide_eq_false hm] at HCK
          have HR := hid (HX.out hm)
          clear hm
          go_wp2_with fail
          refine HCK.out.mono ?_
          rintro e w1 ⟨rfl, b1⟩
          have HB1 := hid (bel_of HB.out b1)
          clear b1
          go_wp2_with fail
          go_ret
          exact ⟨by rw [HR.out]; rfl, HB1.out⟩
      · have HR := hid (HYES.out (fun i hi => HA.out i (by omega)))
        clear hb
        go_wp2_with fail
        go_ret
        exact ⟨by rw [HR.out]; rfl, HB.out⟩
  · rw [decide_eq_false (fun q : OrdP n o => hln q.1)]
    have hn1 : ((o.length : Int) != (n : Int)) = true := by simp; omega
    clear hr hln
    go_enter Try.func18, Try.ntmps18
    go_wp2_with fail
    go_ret
    exact ⟨rfl, Below.refl _ _⟩
set_option maxRecDepth 20000 in
theorem sub_any (x y : Tk) (w : World) (hx : tok x) (hy : tok y) :
    Calls Try.prog 28 #[vT x, vT y] w fun e w' => e = .returned (.int .i64 (x.2.2 - y.2.2)) ∧ ∃ q os, w' = grow (w.drewN q) os := by
  obtain ⟨m, e, d⟩ := x
  obtain ⟨m', e', d'⟩ := y
  obtain ⟨_, x0, x1, x2, _, _⟩ := hx
  obtain ⟨_, y0, y1, y2, _, _⟩ := hy
  simp only at x0 x1 x2 y0 y1 y2
  have hw : IntKind.i64.wrap (d - d') = d - d' := by rw [IntKind.wrap_i64]; omega
  go_enter Try.func28, Try.ntmps28
  go_wp2_with fail
  go_ret
  exact ⟨rfl, 0, _, by rw [alloc_eq_grow, alloc_eq_grow, grow_grow]; rfl⟩
theorem below_grow {B : Nat} {a w : World} (h : Below B a w) (hB : B ≤ w.heap.size) (n : Nat) (os : Array Obj) : Below B a (grow (w.drewN n) os) :=
  h.grown (grown_grow w n os none) hB (fun g hg => by simp at hg)
set_option maxRecDepth 20000 in
set_option maxHeartbeats 1600000 in
theorem isSorted_any (l : List Tk) (a : Option Addr) (ca : Nat) (w : World) (hr : Tks w a l) (hn : l.length ≤ 16) (hg : ∀ x ∈ l, tok x) (hs : l.Pairwise (fun x y => x.2.2 ≤ y.2.2)) :
    Calls Try.prog 27 #[.slice a l.length ca, .func (.func 28) #[] #[]] w fun e w' => e = .returned (.bool true) ∧ Below w.heap.size w w' := by
  have mixed := mixd
  have HR := hid hr
  have HSUB := hid (fun (k : Nat) (hk : k + 1 < l.length) (W : World) => sub_any (l.getD (k + 1) zTk) (l.getD k zTk) W (hg _ (tk_mem hk)) (hg _ (tk_mem (by omega))))
  have HLE := hid (fun (k : Nat) (hk : k + 1 < l.length) => (by
    have h := List.pairwise_iff_getElem.1 hs k (k + 1) (by omega) hk (by omega)
    simpa [List.getD, hk, show k < l.length by omega] using h : (l.getD k zTk).2.2 ≤ (l.getD (k + 1) zTk).2.2))
  have HT := hid (fun (k : Nat) (hk : k < l.length) => hg _ (tk_mem hk))
  clear hr hg hs
  go_enter Try.func27, Try.ntmps27
  go_wp2_with fail
  go_loopw [5] (fun v5 wr => ∃ z : Int, v5 = .int .i64 z ∧ -1 ≤ z ∧ z < (l.length : Int) ∧ Below w.heap.size w wr) (fun v5 _ => (intOf v5).toNat)
  case atStart => exact ⟨(l.length : Int) - 1, rfl, by omega, by omega, Below.refl _ _⟩
  case round =>
    obtain ⟨z, rfl, z0, z1, hb⟩ := hrel
    have HB := hid hb
    by_cases hz : 0 < z
    · obtain ⟨k, rfl⟩ : ∃ k : Nat, z = (k : Int) + 1 := ⟨(z - 1).toNat, by omega⟩
      have hk : k + 1 < l.length := by omega
      obtain ⟨p, off, rfl, hp, x0, x1, x2⟩ := (HR.out.below hb (Nat.le_refl _)).at (k + 1) hk
      obtain ⟨p', off', e', hp', y0, y1, y2⟩ := (HR.out.below hb (Nat.le_refl _)).at k (by omega)
      simp only [Option.some.injEq, Addr.mk.injEq, and_true] at e'
      obtain ⟨rfl, rfl⟩ := e'
      have hle := HLE.out k hk
      have tx := HT.out (k + 1) hk
      have ty := HT.out k (by omega)
      have HS := hid (fun W => HSUB.out k hk W)
      have gx0 := fun n os => cell_grown (a := ⟨p, off + (k + 1) * 3, none⟩) hp x0 n os
      have gx1 := fun n os => cell_grown (a := ⟨p, off + (k + 1) * 3 + 1, none⟩) hp x1 n os
      have gx2 := fun n os => cell_grown (a := ⟨p, off + (k + 1) * 3 + 2, none⟩) hp x2 n os
      have gy0 := fun n os => cell_grown (a := ⟨p, off + k * 3, none⟩) hp y0 n os
      have gy1 := fun n os => cell_grown (a := ⟨p, off + k * 3 + 1, none⟩) hp y1 n os
      have gy2 := fun n os => cell_grown (a := ⟨p, off + k * 3 + 2, none⟩) hp y2 n os
      clear hb x0 x1 x2 y0 y1 y2 hp hp'
      generalize l.getD (k + 1) zTk = tx' at *
      generalize l.getD k zTk = ty' at *
      obtain ⟨m, e, d⟩ := tx'
      obtain ⟨m', e', d'⟩ := ty'
      obtain ⟨_, _, t1, t2, _, _⟩ := tx
      obtain ⟨_, _, t3, t4, _, _⟩ := ty
      simp only at gx0 gx1 gx2 gy0 gy1 gy2 hle HS t1 t2 t3 t4
      have hd : ¬ d - d' < 0 := by omega
      generalize d - d' = dd at *
      have i0 : (0 : Int) < (k : Int) + 1 := by omega
      have i1 : (k : Int) + 1 < (l.length : Int) := by omega
      have i2 : (k : Int) < (l.length : Int) := by omega
      have i3 : (0 : Int) ≤ (k : Int) + 1 := by omega
      have e0 : ((k : Int) + 1).toNat = k + 1 := by omega
      have hwk : IntKind.i64.wrap (k : Int) = (k : Int) := by rw [IntKind.wrap_i64]; omega
      clear hle t1 t2 t3 t4 hk
      go_wp2_with fail
      go_quiet_grown (first | exact Calls.grown_of (HS.out _))
      go_wp2_with fail
      go_roundw
      case rel => exact ⟨(k : Int), by go_num, by omega, by omega, below_grow HB.out HB.out.size _ _⟩
      case measure => simp [intOf]
    · clear hb
      go_wp2_with fail
      go_ret
      exact ⟨rfl, HB.out⟩
end RankC
end Go.Proofs.Ytnbfadfhpegddaa
