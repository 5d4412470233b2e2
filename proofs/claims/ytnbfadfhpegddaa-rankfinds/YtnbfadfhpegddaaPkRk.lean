/- Several texts, one behind the other: RnkA RnkB RnkC RnkD RnkE RnkF RnkG. -/
import Derived.Test.YtnbfadfhpegddaaRepB
import Derived.Test.YtnbfadfhpegddaaRnkM
import Derived.Test.YtnbfadfhpegddaaRowTk
import Derived.Shelf.RegionOpenPlain
import Derived.Shelf.SlSortCmp.QuietGrown
import Derived.Test.YtnbfadfhpegddaaRowTkd
/- Contracts of package rank: the keys, the comparison, insertion, SortStableFunc of at most sixteen ints. -/
set_option linter.unusedVariables false
namespace Go.Proofs.Ytnbfadfhpegddaa
open Go.RowKit hiding tok
open Go.Shelf Go.Sort
open SpanM SupM SpanC TaskM PlayM RankM
open RowsO hiding Tk
namespace RankC
open TaskC (tchk tchk_zero tcheck_any tk_snoc tk_mem)
open NumC (Row)
open RepC (OwnI.row OwnI.set OwnI.frozen OwnI.base' OwnI.made made_zero)
open PlayC (Row.below)
abbrev vT (x : Tk) : Value := .agg #[.int .i64 x.1, .int .i64 x.2.1, .int .i64 x.2.2]
abbrev vS (g n cap : Nat) : Value := .slice (some ⟨g, 0, none⟩) n cap
/-- a function of a task, as a key -/
def IsKey (f : Nat) (key : Tk → Int) : Prop := (∀ (args : Array Value) (w : World), Sem.run Try.prog (callFunc f args) w = .ok (.enter f args) w) ∧ ∀ (x : Tk) (w : World), Calls Try.prog f #[vT x] w fun e w' => e = .returned (.int .i64 (key x)) ∧ ∃ q os, w' = grow (w.drewN q) os
set_option maxRecDepth 20000 in
theorem due_key : IsKey 30 (fun x => x.2.2) := by
  refine ⟨fun args w => by kernel_rfl, ?_⟩
  rintro ⟨m, e, d⟩ w
  go_enter Try.func30, Try.ntmps30
  go_wp2_with fail
  go_ret
  exact ⟨rfl, 0, _, by rw [alloc_eq_grow]; rfl⟩
set_option maxRecDepth 20000 in
theorem every_key : IsKey 31 (fun x => x.2.1) := by
  refine ⟨fun args w => by kernel_rfl, ?_⟩
  rintro ⟨m, e, d⟩ w
  go_enter Try.func31, Try.ntmps31
  go_wp2_with fail
  go_ret
  exact ⟨rfl, 0, _, by rw [alloc_eq_grow]; rfl⟩
set_option maxRecDepth 20000 in
theorem due_key2 : IsKey 16 (fun x => x.2.2) := by
  refine ⟨fun args w => by kernel_rfl, ?_⟩
  rintro ⟨m, e, d⟩ w
  go_enter Try.func16, Try.ntmps16
  go_wp2_with fail
  go_ret
  exact ⟨rfl, 0, _, by rw [alloc_eq_grow]; rfl⟩
set_option maxRecDepth 20000 in
theorem every_key2 : IsKey 17 (fun x => x.2.1) := by
  refine ⟨fun args w => by kernel_rfl, ?_⟩
  rintro ⟨m, e, d⟩ w
  go_enter Try.func17, Try.ntmps17
  go_wp2_with fail
  go_ret
  exact ⟨rfl, 0, _, by rw [alloc_eq_grow]; rfl⟩
def cmpI (x y : Int) : Int := if x < y then -1 else if y < x then 1 else 0
theorem cmpI_neg {x y : Int} : cmpI x y < 0 ↔ x < y := by unfold cmpI; (repeat' split) <;> omega
theorem nan_any (x : Int) (w : World) : Calls Try.prog 57 #[.int .i64 x] w fun e w' => e = .returned (.bool false) ∧ w' = w := by
  go_enter Try.func57, Try.ntmps57
  go_wp2
  go_ret
  exact ⟨rfl, rfl⟩
theorem compare_any (x y : Int) (w : World) : Calls Try.prog 47 #[.int .i64 x, .int .i64 y] w fun e w' => e = .returned (.int .i64 (cmpI x y)) ∧ w' = w := by
  unfold cmpI
  by_cases h : x < y
  · rw [if_pos h]
    go_enter Try.func47, Try.ntmps47
    go_wp2_with (go_at_call 57; refine (nan_any _ _).mono ?_; rintro e w' ⟨rfl, hw⟩; replace hw := hw.symm; subst hw)
    go_ret
    exact ⟨rfl, rfl⟩
  · rw [if_neg h]
    by_cases h2 : y < x
    · rw [if_pos h2]
      go_enter Try.func47, Try.ntmps47
      go_wp2_with (go_at_call 57; refine (nan_any _ _).mono ?_; rintro e w' ⟨rfl, hw⟩; replace hw := hw.symm; subst hw)
      go_ret
      exact ⟨rfl, rfl⟩
    · rw [if_neg h2]
      go_enter Try.func47, Try.ntmps47
      go_wp2_with (go_at_call 57; refine (nan_any _ _).mono ?_; rintro e w' ⟨rfl, hw⟩; replace hw := hw.symm; subst hw)
      go_ret
      exact ⟨rfl, rfl⟩
theorem mixd : Try.prog.follows .mixedOrders = true := by kernel_rfl
theorem get_at (l : List Tk) {i : Nat} (h : i < l.length) : RankM.get l i = l.getD i zTk := by simp [RankM.get, zTk]
set_option maxRecDepth 20000 in
set_option maxHeartbeats 400000 in
theorem cmp_any (f : Nat) (key : Tk → Int) (hk : IsKey f key) (l : List Tk) (a : Option Addr) (ca pk pl : Nat) (x y : Nat) (w : World) (hr : Tks w a l) (hx : x < l.length) (hy : y < l.length)
    (ck : w.cell? ⟨pk, 0, none⟩ = some (.func (.func f) #[] #[])) (cl : w.cell? ⟨pl, 0, none⟩ = some (.slice a l.length ca)) :
    Calls Try.prog 46 #[.int .i64 x, .int .i64 y, .pointer (some ⟨pk, 0, none⟩), .pointer (some ⟨pl, 0, none⟩)] w fun e w' => e = .returned (.int .i64 (cmpI (key (RankM.get l x)) (key (RankM.get l y)))) ∧ ∃ q os, w' = grow (w.drewN q) os := by
  have mixed := mixd
  obtain ⟨b, off, rfl, hb, x0, x1, x2⟩ := hr.at x hx
  obtain ⟨b', off', e', hb', y0, y1, y2⟩ := hr.at y hy
  simp only [Option.some.injEq, Addr.mk.injEq, and_true] at e'
  obtain ⟨rfl, rfl⟩ := e'
  rw [get_at l hx, get_at l hy]
  have ix : (x : Int) < (l.length : Int) := by omega
  have iy : (y : Int) < (l.length : Int) := by omega
  have bk := World.block_lt_of_cell? w _ ck
  have bl := World.block_lt_of_cell? w _ cl
  have gk := fun n os => cell_grown bk ck n os
  have gl := fun n os => cell_grown bl cl n os
  have gx0 := fun n os => cell_grown (a := ⟨b, off + x * 3, none⟩) hb x0 n os
  have gx1 := fun n os => cell_grown (a := ⟨b, off + x * 3 + 1, none⟩) hb x1 n os
  have gx2 := fun n os => cell_grown (a := ⟨b, off + x * 3 + 2, none⟩) hb x2 n os
  have gy0 := fun n os => cell_grown (a := ⟨b, off + y * 3, none⟩) hb y0 n os
  have gy1 := fun n os => cell_grown (a := ⟨b, off + y * 3 + 1, none⟩) hb y1 n os
  have gy2 := fun n os => cell_grown (a := ⟨b, off + y * 3 + 2, none⟩) hb y2 n os
  have HK := hid hk
  generalize l.getD x zTk = tx at *
  generalize l.getD y zTk = ty at *
  obtain ⟨m, e, d⟩ := tx
  obtain ⟨m', e', d'⟩ := ty
  simp only at gx0 gx1 gx2 gy0 gy1 gy2
  generalize l.length = len at *
  have hkx := hid (fun W => HK.out.2 (m, e, d) W)
  have hky := hid (fun W => HK.out.2 (m', e', d') W)
  have hcf := HK.out.1
  clear hr hx hy x0 x1 x2 y0 y1 y2 ck cl bk bl hb hb' hk HK
  generalize key (m, e, d) = kx at *
  generalize key (m', e', d') = ky at *
  go_enter Try.func46, Try.ntmps46
  go_wp2_with fail
  go_quiet_grown (first | (go_at_call 47; exact Calls.grown_of ((compare_any _ _ _).mono fun _ _ h => ⟨h.1, 0, #[], by rw [h.2, grow_empty]; rfl⟩)) | exact Calls.grown_of (hkx.out _) | exact Calls.grown_of (hky.out _))
  go_wp2_with fail
  go_ret
  exact ⟨rfl, nq, osq, rfl⟩
end RankC
end Go.Proofs.Ytnbfadfhpegddaa

/- Contracts of package rank: insertion, SortStableFunc of at most sixteen ints, numbers, orderBy, ByDue, ByEvery. -/
set_option linter.unusedVariables false
namespace Go.Proofs.Ytnbfadfhpegddaa
open Go.RowKit hiding tok
open Go.Shelf Go.Sort
open SpanM SupM SpanC TaskM PlayM RankM
open RowsO hiding Tk
namespace RankC
open TaskC (tchk tchk_zero tcheck_any tk_snoc tk_mem)
open NumC (Row)
open RepC (OwnI.row OwnI.set OwnI.frozen OwnI.base' OwnI.made made_zero)
open PlayC (Row.below)
theorem grown_refl (w : World) (r : Option Nat) : w.grownBy w r := ⟨rfl, rfl, rfl, Nat.le_refl _, fun _ _ _ => rfl⟩
theorem grown_grow (w : World) (n : Nat) (os : Array Obj) (r : Option Nat) : w.grownBy (grow (w.drewN n) os) r :=
  ⟨rfl, rfl, rfl, by rw [size_grow]; exact Nat.le_add_right _ _, fun k hk _ => by
    rw [heap_grow_old _ _ (by exact hk)]; rfl⟩
theorem grown_drew {w w' : World} {r : Option Nat} (h : w.drew.grownBy w' r) : w.grownBy w' r := ⟨h.os, h.tape, h.output, h.size, h.block⟩
theorem owni_grow {w : World} {B g n cap : Nat} {l : List Int} (h : OwnI w B (vS g n cap) l) (m : Nat) (os : Array Obj) : OwnI (grow (w.drewN m) os) B (vS g n cap) l :=
  World.ownsRow.kept h (grown_grow w m os none) (.inr (by simp [Value.ownBlock]))
theorem owni_drew {w : World} {B : Nat} {v : Value} {l : List Int} (h : OwnI w B v l) : OwnI w.drew B v l := World.ownsRow.drew h
abbrev vC (pk pl : Nat) : Value := .func (.func 46) #[] #[.pointer (some ⟨pk, 0, none⟩), .pointer (some ⟨pl, 0, none⟩)]
/-- what a comparison by the numbers' keys tells, wherever the row g may have turned -/
def CmpOk (κ : Int → Int) (n g pk pl : Nat) (w : World) : Prop := ∀ (W : World) (x y : Nat), w.grownBy W (some g) → x < n → y < n →
  Calls Try.prog 46 #[.int .i64 x, .int .i64 y, .pointer (some ⟨pk, 0, none⟩), .pointer (some ⟨pl, 0, none⟩)] W fun e w' => e = .returned (.int .i64 (cmpI (κ x) (κ y))) ∧ ∃ q os, w' = grow (W.drewN q) os
/-- two beside one another, exchanged -/
theorem sw_ready {w : World} {B g n cap : Nat} {l : List Int} (h : OwnI w B (vS g n cap) l) (hn : n = l.length) (a b : Nat) (ha : a < n) (hb : b < n) (hab : a ≠ b) :
    w.cell? ⟨g, a, none⟩ = some (.int .i64 (l.getD a 0)) ∧ w.cell? ⟨g, b, none⟩ = some (.int .i64 (l.getD b 0)) ∧ (∀ k, w.frozen? ⟨g, k, none⟩ = false) ∧
    (w.setCell ⟨g, a, none⟩ (.int .i64 (l.getD b 0))).cell? ⟨g, b, none⟩ = some (.int .i64 (l.getD b 0)) ∧ (∀ k, (w.setCell ⟨g, a, none⟩ (.int .i64 (l.getD b 0))).frozen? ⟨g, k, none⟩ = false) ∧
    Hid (OwnI ((w.setCell ⟨g, a, none⟩ (.int .i64 (l.getD b 0))).setCell ⟨g, b, none⟩ (.int .i64 (l.getD a 0))) B (vS g n cap) (swp l a b) ∧ w.grownBy ((w.setCell ⟨g, a, none⟩ (.int .i64 (l.getD b 0))).setCell ⟨g, b, none⟩ (.int .i64 (l.getD a 0))) (some g)) := by
  obtain ⟨h1, g1⟩ := OwnI.set h hn a (l.getD b 0)
  have hn1 : n = (l.set a (l.getD b 0)).length := by simpa using hn
  obtain ⟨h2, g2⟩ := OwnI.set h1 hn1 b (l.getD a 0)
  refine ⟨OwnI.cell h a (by omega), OwnI.cell h b (by omega), fun k => OwnI.frozen h hn k, ?_, fun k => OwnI.frozen h1 hn1 k, ⟨h2, g1.trans g2⟩⟩
  rw [OwnI.cell h1 b (by omega)]
  congr 2
  simp only [List.getD_eq_getElem?_getD, List.getElem?_set]
  rw [if_neg hab]
set_option maxRecDepth 20000 in
set_option maxHeartbeats 1600000 in
theorem insertion_any (κ : Int → Int) (n g cap B pk pl : Nat) (w : World) (h : OwnI w B (vS g n cap) (nums n)) (hn : n ≤ 16) (hc : CmpOk κ n g pk pl w) :
    Calls Try.prog 63 #[vS g n cap, .int .i64 0, .int .i64 n, vC pk pl] w fun e w' => e = .returned (.tuple #[]) ∧ ∃ o, KP κ n o ∧ OwnI w' B (vS g n cap) o ∧ w.grownBy w' (some g) := by
  have mixed := mixd
  have HO := hid h
  have HC := hid hc
  clear h hc
  go_enter Try.func63, Try.ntmps63
  go_wp2_with fail
  go_loopw [8] (fun vi wr => ∃ (i : Nat) (li : List Int), 1 ≤ i ∧ (i ≤ n ∨ i = 1) ∧ vi = .int .i64 i ∧ OwnI wr B (vS g n cap) li ∧ w.grownBy wr (some g) ∧ Ins κ n i li) (fun vi _ => n + 1 - (intOf vi).toNat)
  case atStart => exact ⟨1, nums n, by omega, .inr rfl, by go_num, HO.out, grown_refl _ _, Ins.start κ n⟩
  case round =>
    obtain ⟨i, li, hi1, hi2, rfl, ho, hg, hs⟩ := hrel
    have HO1 := hid ho
    have HG1 := hid hg
    have HS1 := hid hs
    clear ho hg hs
    by_cases hlt : i < n
    · go_wp2_with fail
      obtain ⟨w0, hw0⟩ : ∃ x, x = wr := ⟨_, rfl⟩
      subst hw0
      go_loopw [9] (fun vj wr => ∃ (j : Nat) (lj : List Int), j ≤ i ∧ vj = .int .i64 j ∧ OwnI wr B (vS g n cap) lj ∧ w.grownBy wr (some g) ∧ InsJ κ n i j lj) (fun vj _ => (intOf vj).toNat)
      case atStart => exact ⟨i, li, by omega, rfl, HO1.out, HG1.out, HS1.out.open hlt⟩
      case round =>
        obtain ⟨j, lj, hji, rfl, ho, hg, hs⟩ := hrel
        have HO2 := hid ho
        have HG2 := hid hg
        have HS2 := hid hs
        clear ho hg hs
        by_cases hja : 0 < j
        · obtain ⟨p, rfl⟩ : ∃ p, j = p + 1 := ⟨j - 1, by omega⟩
          have hp := HS2.out.perm hlt
          have hlj := perm_nums_len hp
          obtain ⟨x0, x1⟩ := perm_nums_mem hp (show p + 1 < n by omega)
          obtain ⟨y0, y1⟩ := perm_nums_mem hp (show p < n by omega)
          have HSW := hid (fun hk => HS2.out.swap hk)
          have HST := hid (fun hk => HS2.out.stop hlt hk)
          obtain ⟨x, hx⟩ : ∃ x : Nat, lj.getD (p + 1) 0 = x := ⟨(lj.getD (p + 1) 0).toNat, by omega⟩
          obtain ⟨y, hy⟩ : ∃ y : Nat, lj.getD p 0 = y := ⟨(lj.getD p 0).toNat, by omega⟩
          have hcl := hid (fun m os => HC.out (grow (wr.drewN m) os) x y (HG2.out.trans (grown_grow _ _ _ _)) (by omega) (by omega))
          have l1 := fun m os => OwnI.cell (owni_grow HO2.out m os) (p + 1) (by omega)
          have l2 := fun m os => OwnI.cell (owni_grow HO2.out m os) p (by omega)
          have hswp := fun (W : World) (hW : OwnI W B (vS g n cap) lj) => sw_ready hW (by omega) (p + 1) p (by omega) (by omega) (by omega)
          rw [hx, hy] at HSW hswp
          rw [hx] at l1
          rw [hy] at l2
          have HSTT := hid (fun hk => HST.out (fun q hq => by
            have : q = p := by omega
            subst this
            rw [hx, hy]; exact hk))
          have hneg := @cmpI_neg (κ x) (κ y)
          have HSWP := hid hswp
          have HNEG := hid hneg
          have i1 : (0 : Int) ≤ (p : Int) + 1 := by omega
          have i2 : (p : Int) + 1 < (n : Int) := by omega
          have i3 : (p : Int) < (n : Int) := by omega
          have e0 : ((p : Int) + 1).toNat = p + 1 := by omega
          have hwp : IntKind.i64.wrap (p : Int) = (p : Int) := by rw [IntKind.wrap_i64]; omega
          have hja2 : (0 : Int) < (p : Int) + 1 := by omega
          clear hp hlj x0 x1 y0 y1 HST hx hy hswp hneg hja
          generalize cmpI (κ x) (κ y) = c at *
          by_cases hlv : c < 0
          · go_wp2_with fail
            go_quiet_grown (first | (go_at_call 46; refine Calls.grown_of (hcl.out _ _)))
            go_wp2_with fail
            have HO3 := hid (owni_grow HO2.out nq osq)
            have HG3 := hid (grown_grow wr nq osq (some g))
            generalize grow (wr.drewN nq) osq = w3 at *
            clear l1 l2 hcl
            obtain ⟨c1, c2, c3, c4, c5, HSS⟩ := HSWP.out w3 HO3.out
            go_big_region_o
            all_goals go_wp2
            go_roundw
            case rel => exact ⟨p, swp lj (p + 1) p, by omega, by go_num, owni_drew HSS.out.1, ((HG2.out.trans HG3.out).trans HSS.out.2).trans (grown_drew (grown_refl _ _)), HSW.out (HNEG.out.1 hlv)⟩
            case measure => simp [intOf]
          · have HLV := hid (fun h : c < 0 => hlv h)
            go_wp2_with fail
            go_quiet_grown (first | (go_at_call 46; refine Calls.grown_of (hcl.out _ _)))
            go_wp2_with fail
            have HO3 := hid (owni_grow HO2.out nq osq)
            have HG3 := hid (grown_grow wr nq osq (some g))
            generalize grow (wr.drewN nq) osq = w3 at *
            clear l1 l2 hcl
            go_roundw
            case rel => exact ⟨i + 1, lj, by omega, .inl (by omega), by go_num, HO3.out, HG2.out.trans HG3.out, HSTT.out (by have h := fun h => HLV.out (HNEG.out.2 h); first | exact h | exact Int.not_lt.1 h)⟩
            case measure => simp [intOf]; omega
        · have hj0 : j = 0 := by omega
          subst hj0
          have HO3 : Hid (OwnI wr.drew B (vS g n cap) lj) := owni_drew HO2.out
          have HG3 : Hid (wr.grownBy wr.drew (some g)) := grown_drew (grown_refl _ _)
          have HST := hid (HS2.out.stop hlt (fun q hq => by omega))
          go_wp2_with fail
          go_big_region_o
          all_goals go_wp2
          go_roundw
          case rel => exact ⟨i + 1, lj, by omega, .inl (by omega), by go_num, HO3.out, HG2.out.trans HG3.out, HST.out⟩
          case measure => simp [intOf]; omega
    · go_wp2_with fail
      go_end0
      exact ⟨rfl, li, HS1.out.done (by omega), HO1.out, HG1.out⟩
set_option maxRecDepth 20000 in
set_option maxHeartbeats 800000 in
theorem stable_any (κ : Int → Int) (n g cap B pk pl : Nat) (w : World) (h : OwnI w B (vS g n cap) (nums n)) (hn : n ≤ 16) (hc : CmpOk κ n g pk pl w) :
    Calls Try.prog 56 #[vS g n cap, .int .i64 n, vC pk pl] w fun e w' => e = .returned (.tuple #[]) ∧ ∃ o, KP κ n o ∧ OwnI w' B (vS g n cap) o ∧ w.grownBy w' (some g) := by
  have HI := hid (insertion_any κ n g cap B pk pl w h hn hc)
  have n20 : ¬ (20 : Int) ≤ (n : Int) := by omega
  have n21 : ¬ (20 : Int) < (n : Int) := by omega
  clear h hc
  go_enter Try.func56, Try.ntmps56
  go_wp2_with fail
  refine wp_loop_rounds 1 ?_
  rw [rounds_succ]
  go_wp2_with (first | (go_at_call 63; refine HI.out.mono ?_; rintro e w' ⟨rfl, o, hk, ho, hg⟩; have HK := hid hk; have HO := hid ho; have HG := hid hg; clear hk ho hg))
  refine wp_loop_rounds 1 ?_
  rw [rounds_succ]
  go_wp2_with fail
  go_end0
  exact ⟨rfl, o, HK.out, HO.out, HG.out⟩
set_option maxRecDepth 20000 in
theorem sort_any (κ : Int → Int) (n g cap B pk pl : Nat) (w : World) (h : OwnI w B (vS g n cap) (nums n)) (hn : n ≤ 16) (hc : CmpOk κ n g pk pl w) :
    Calls Try.prog 45 #[vS g n cap, vC pk pl] w fun e w' => e = .returned (.tuple #[]) ∧ ∃ o, KP κ n o ∧ OwnI w' B (vS g n cap) o ∧ w.grownBy w' (some g) := by
  have HI := hid (stable_any κ n g cap B pk pl w h hn hc)
  clear h hc
  go_enter Try.func45, Try.ntmps45
  go_wp2_with (first | (go_at_call 56; refine HI.out.mono ?_; rintro e w' ⟨rfl, o, hk, ho, hg⟩; have HK := hid hk; have HO := hid ho; have HG := hid hg; clear hk ho hg))
  go_end0
  exact ⟨rfl, o, HK.out, HO.out, HG.out⟩
end RankC
end Go.Proofs.Ytnbfadfhpegddaa

/- Contracts of package rank: numbers, orderBy, ByDue, ByEvery, isOrder, Of. -/
set_option linter.unusedVariables false
namespace Go.Proofs.Ytnbfadfhpegddaa
open Go.RowKit hiding tok
open Go.Shelf Go.Sort
open SpanM SupM SpanC TaskM PlayM RankM
open RowsO hiding Tk
namespace RankC
open TaskC (tchk tchk_zero tcheck_any tk_snoc tk_mem)
open NumC (Row)
open RepC (OwnI.row OwnI.set OwnI.frozen OwnI.base' OwnI.made made_zero)
open PlayC (Row.below box_cell box_alloc box_new)
/-- two boxes of a call's own -/
structure B2 (w W : World) (x y : Array Value) (tx ty : Nat) : Prop where
  b : Below (w.heap.size + 2) ((w.alloc (.cells x tx)).alloc (.cells y ty)) W
theorem B2.start (w : World) (x y : Array Value) (tx ty : Nat) : B2 w ((w.alloc (.cells x tx)).alloc (.cells y ty)) x y tx ty := ⟨Below.refl _ _⟩
theorem B2.size {w W : World} {x y : Array Value} {tx ty : Nat} (h : B2 w W x y tx ty) : w.heap.size + 2 ≤ W.heap.size := by
  have := h.b.size
  rw [World.size_alloc, World.size_alloc] at this
  exact this
theorem B2.step {w W V : World} {x y : Array Value} {tx ty : Nat} (h : B2 w W x y tx ty) (k : Below W.heap.size W V) : B2 w V x y tx ty := ⟨h.b.trans (k.mono h.size)⟩
theorem B2.row {w W V : World} {x y : Array Value} {tx ty : Nat} {r : Option Nat} (h : B2 w W x y tx ty) (k : W.grownBy V r) (hr : ∀ g, r = some g → w.heap.size + 2 ≤ g) : B2 w V x y tx ty := ⟨h.b.grown k h.size hr⟩
theorem B2.bel {w W : World} {x y : Array Value} {tx ty : Nat} (h : B2 w W x y tx ty) : Below w.heap.size w W :=
  (((Below.refl _ w).alloc (Nat.le_refl _) _).alloc (by rw [World.size_alloc]; omega) _).trans (h.b.mono (by omega))
theorem B2.c0 {w W : World} {x y : Array Value} {tx ty : Nat} (h : B2 w W x y tx ty) (i : Nat) : W.cell? ⟨w.heap.size, i, none⟩ = x[i]? := by
  rw [h.b.cell (by show w.heap.size < _; omega)]
  exact box_cell (box_alloc (box_new w x tx) _) i
theorem B2.c1 {w W : World} {x y : Array Value} {tx ty : Nat} (h : B2 w W x y tx ty) (i : Nat) : W.cell? ⟨w.heap.size + 1, i, none⟩ = y[i]? := by
  rw [h.b.cell (by show w.heap.size + 1 < _; omega)]
  have := box_new (w.alloc (.cells x tx)) y ty
  rw [World.size_alloc] at this
  exact box_cell this i
/-- the numbers below k, noughts behind them -/
def numsTo (n k : Nat) : List Int := (List.range n).map fun j => if j < k then (j : Int) else 0
theorem numsTo_len (n k : Nat) : (numsTo n k).length = n := by simp [numsTo]
theorem numsTo_zero (n : Nat) : numsTo n 0 = List.replicate n 0 := by
  apply List.ext_getElem
  · simp [numsTo]
  · intro j h1 h2; simp [numsTo]
theorem numsTo_all (n : Nat) : numsTo n n = nums n := by
  apply List.ext_getElem
  · simp [numsTo, nums]
  · intro j h1 h2
    have : j < n := by simpa [numsTo] using h1
    simp [numsTo, nums, this]
theorem numsTo_set (n k : Nat) : (numsTo n k).set k k = numsTo n (k + 1) := by
  apply List.ext_getElem
  · simp [numsTo]
  · intro j h1 h2
    rw [List.getElem_set]
    split
    · subst_vars; simp [numsTo]
    · simp [numsTo]
      by_cases c : j < k
      · rw [if_pos c, if_pos (by omega)]
      · rw [if_neg c, if_neg (by omega)]
set_option maxRecDepth 20000 in
set_option maxHeartbeats 800000 in
theorem numbers_any (n : Nat) (hn : n ≤ 16) (w : World) :
    Calls Try.prog 39 #[.int .i64 n] w fun e w' => (∃ g, e = .returned (vS g n n) ∧ w.heap.size ≤ g ∧ OwnI w' w.heap.size (vS g n n) (nums n)) ∧ Below w.heap.size w w' := by
  obtain ⟨i0, hi, hz0, hz1, hz2⟩ := info_parts infoInt
  have Hi := hid hi
  have Hz0 := hid hz0
  have Hz1 := hid hz1
  have Hz2 := hid hz2
  have HT0 := hid (numsTo_zero n)
  have HTL := hid (numsTo_len n)
  have HTS := hid (numsTo_set n)
  have HTA := hid (numsTo_all n)
  clear hi hz0 hz1 hz2
  generalize numsTo n = TB at *
  go_enter Try.func39, Try.ntmps39
  go_wp2_with (at_make; refine wpList_make_full _ rfl _ _ 23 rfl w.heap.size 3 i0 (.int .i64 0) 1 Try.underlying23 Hi.out Hz0.out Hz1.out _ _ _ _ n rfl rfl ?qc1 ?qc2 ?qc3 ?qc4 ?qc5 ?_)
  case qc1 => rfl
  case qc2 => rfl
  case qc3 => rw [Hz2.out]; omega
  case qc4 => unfold maxLen; omega
  case qc5 => exact Nat.le_refl _
  intro w2 hown hgrow
  have HB2 := hid (Below.grown (Below.refl w.heap.size w) hgrow (Nat.le_refl _) (fun k hk => by simp at hk))
  have HO2 : Hid (OwnI w2 w.heap.size (vS w.heap.size n n) (TB 0)) := by
    show OwnI _ _ _ _
    rw [HT0.out]
    exact OwnI.made hown
  have hgl := hid (Nat.le_refl w.heap.size)
  clear hown hgrow
  obtain ⟨g, hge⟩ : ∃ g, g = w.heap.size := ⟨_, rfl⟩
  rw [← hge] at HO2 HB2
  have HG := hid hge
  rw [← hge]
  clear hge
  go_wp2_with fail
  go_loopw [9] (fun v9 wr => ∃ k : Nat, k ≤ n ∧ v9 = .int .i64 k ∧ OwnI wr g (vS g n n) (TB k) ∧ Below g w wr) (fun v9 _ => n - (intOf v9).toNat)
  case atStart => exact ⟨0, by omega, rfl, HO2.out, HB2.out⟩
  case round =>
    obtain ⟨k, hk, rfl, ho, hb⟩ := hrel
    have HO := hid ho
    have HB := hid hb
    have HSZ := hid (show g ≤ wr.heap.size by have := HG.out; have := hb.size; omega)
    by_cases hlt : k < n
    · have HS := hid (HTS.out k)
      have hki : (k : Int) < (n : Int) := by omega
      have y0 := OwnI.cell ho k (by rw [HTL.out]; exact hlt)
      have y1 := OwnI.frozen ho (by rw [HTL.out]) k
      have HST := hid (OwnI.set ho (by rw [HTL.out]) k (k : Int))
      clear ho hb
      go_wp2_with fail
      obtain ⟨o4, g4⟩ := HST.out
      have HB4 := hid (Below.grown HB.out g4 HSZ.out (fun j hj => by simp at hj; omega))
      rw [HS.out] at o4
      clear y0 y1 g4
      go_roundw
      case rel => exact ⟨k + 1, by omega, by go_num, o4, HB4.out⟩
      case measure => simp [intOf]; omega
    · obtain rfl : k = n := by omega
      clear ho hb
      go_wp2_with fail
      go_ret
      have hb := HB.out
      have ho := HO.out
      rw [HTA.out] at ho
      rw [HG.out] at hb ho
      exact ⟨⟨g, rfl, by rw [HG.out]; exact Nat.le_refl _, by rw [HG.out]; exact ho⟩, hb⟩
/-- by a key, as it is told -/
noncomputable def ordE (key : Tk → Int) (l : List Tk) : List Int := if tchk l = 0 then ordBy (fun i => key (RankM.get l i)) l.length else []
set_option maxRecDepth 20000 in
set_option maxHeartbeats 800000 in
theorem orderBy_any (f : Nat) (key : Tk → Int) (hk : IsKey f key) (l : List Tk) (a : Option Addr) (ca : Nat) (w : World) (hr : Tks w a l) :
    Calls Try.prog 29 #[.slice a l.length ca, .func (.func f) #[] #[]] w fun e w' => (∃ v, e = .returned (.tuple #[v, .int .i64 (tchk l)]) ∧ OwnI w' w.heap.size v (ordE key l)) ∧ Below w.heap.size w w' := by
  have HR := hid hr
  have HC := hid (fun W (h : Below w.heap.size w W) => tcheck_any a ca l W (hr.below h (Nat.le_refl _)))
  unfold ordE
  by_cases h1 : tchk l = 0
  · rw [if_pos h1]
    rw [h1] at HC ⊢
    have hl := (tchk_zero h1).1
    have HCMP := hid (fun (g : Nat) (W : World) (hB : B2 w W #[.slice a l.length ca] #[.func (.func f) #[] #[]] 22 39) (hg : w.heap.size + 2 ≤ g) => (fun V x y hV hx hy => by
      have b := hB.row hV (fun k hk => by simp at hk; omega)
      exact cmp_any f key hk l a ca (w.heap.size + 1) w.heap.size x y V (HR.out.below b.bel (Nat.le_refl _)) hx hy (b.c1 0) (b.c0 0) : CmpOk (fun i => key (RankM.get l i)) l.length g (w.heap.size + 1) w.heap.size W))
    generalize hκ : (fun i => key (RankM.get l i)) = κ at *
    clear hr h1 hk HR hκ
    generalize hn : l.length = n at *
    clear hn
    go_enter Try.func29, Try.ntmps29
    go_wp2_with fail
    refine (HC.out _ (B2.start w _ _ _ _).bel).mono ?_
    rintro e w1 ⟨rfl, b1⟩
    have HB1 := hid ((B2.start w #[.slice a n ca] #[.func (.func f) #[] #[]] 22 39).step b1)
    have c0 := HB1.out.c0 0
    have c1 := HB1.out.c1 0
    simp at c0 c1
    clear b1
    go_wp2_with fail
    refine (numbers_any n hl _).mono ?_
    rintro e w2 ⟨⟨g, rfl, hg, ho⟩, b2⟩
    have HB2 := hid (HB1.out.step b2)
    have HO := hid ho
    have HG := hid (show w.heap.size + 2 ≤ g from Nat.le_trans HB1.out.size hg)
    have HS := hid (sort_any κ n g n w1.heap.size (w.heap.size + 1) w.heap.size w2 ho hl (HCMP.out g w2 HB2.out HG.out))
    have HSZ := hid HB1.out.bel.size
    clear b2 ho hg c0 c1
    have c0 := HB2.out.c0 0
    have c1 := HB2.out.c1 0
    simp at c0 c1
    go_wp2_with fail
    refine HS.out.mono ?_
    rintro e w3 ⟨rfl, o, hk, ho3, hg3⟩
    have HB3 := hid (HB2.out.row hg3 (fun k hk => by simp at hk; have := HG.out; omega))
    have HO3 := hid ho3
    have HK := hid hk
    clear ho3 hg3 hk c0 c1
    go_wp2_with fail
    go_ret2
    exact ⟨⟨_, rfl, by rw [← HK.out.eq]; exact OwnI.base' HO3.out HSZ.out⟩, HB3.out.bel⟩
  · rw [if_neg h1]
    have hn : (tchk l != 0) = true := by simpa using h1
    clear hr h1 HR hk
    generalize tchk l = z at *
    go_enter Try.func29, Try.ntmps29
    go_wp2_with fail
    refine (HC.out _ (B2.start w _ _ _ _).bel).mono ?_
    rintro e w1 ⟨rfl, b1⟩
    have HB1 := hid ((B2.start w #[.slice a l.length ca] #[.func (.func f) #[] #[]] 22 39).step b1)
    clear b1
    go_wp2_with fail
    go_ret2
    exact ⟨⟨_, rfl, World.ownsRow_nil _ _ _ _⟩, HB1.out.bel⟩
set_option maxRecDepth 20000 in
theorem ByDue_any (l : List Tk) (a : Option Addr) (ca : Nat) (w : World) (hr : Tks w a l) :
    Calls Try.prog 9 #[.slice a l.length ca] w fun e w' => (∃ v, e = .returned (.tuple #[v, .int .i64 (tchk l)]) ∧ OwnI w' w.heap.size v (ordE (fun x => x.2.2) l)) ∧ Below w.heap.size w w' := by
  have HC := hid (orderBy_any 30 _ due_key l a ca w hr)
  clear hr
  go_enter Try.func9, Try.ntmps9
  go_wp2_with fail
  refine HC.out.mono ?_
  rintro e w1 ⟨⟨v, rfl, ho⟩, b1⟩
  have HO := hid ho
  have HB := hid b1
  obtain ⟨a1, n1, k1, rfl⟩ := OwnI.slice ho
  clear ho b1
  go_wp2_with fail
  go_ret2
  exact ⟨⟨_, rfl, HO.out⟩, HB.out⟩
set_option maxRecDepth 20000 in
theorem ByEvery_any (l : List Tk) (a : Option Addr) (ca : Nat) (w : World) (hr : Tks w a l) :
    Calls Try.prog 10 #[.slice a l.length ca] w fun e w' => (∃ v, e = .returned (.tuple #[v, .int .i64 (tchk l)]) ∧ OwnI w' w.heap.size v (ordE (fun x => x.2.1) l)) ∧ Below w.heap.size w w' := by
  have HC := hid (orderBy_any 31 _ every_key l a ca w hr)
  clear hr
  go_enter Try.func10, Try.ntmps10
  go_wp2_with fail
  refine HC.out.mono ?_
  rintro e w1 ⟨⟨v, rfl, ho⟩, b1⟩
  have HO := hid ho
  have HB := hid b1
  obtain ⟨a1, n1, k1, rfl⟩ := OwnI.slice ho
  clear ho b1
  go_wp2_with fail
  go_ret2
  exact ⟨⟨_, rfl, HO.out⟩, HB.out⟩
end RankC
end Go.Proofs.Ytnbfadfhpegddaa

/- Contracts of package rank: isOrder, Of, Good. -/
set_option linter.unusedVariables false
namespace Go.Proofs.Ytnbfadfhpegddaa
open Go.RowKit hiding tok
open Go.Shelf Go.Sort
open SpanM SupM SpanC TaskM PlayM RankM
open RowsO hiding Tk
namespace RankC
open TaskC (tchk tchk_zero tchk_of tcheck_any tk_snoc tk_mem)
open NumC (Row)
open RepC (OwnI.row OwnI.set OwnI.frozen OwnI.base' OwnI.made made_zero)
open PlayC (Row.below box_cell box_alloc box_new)
instance (n : Nat) (o : List Int) : Decidable (OrdP n o) := by unfold OrdP; exact instDecidableAnd
/-- which numbers have been met -/
def hasL (o : List Int) : List Value := (List.range 16).map fun (j : Nat) => .bool (decide ((j : Int) ∈ o))
theorem hasL_set (o : List Int) {i : Nat} (h : i < 16) : (hasL o).set i (.bool true) = hasL (o ++ [(i : Int)]) := by
  apply List.ext_getElem
  · simp [hasL]
  · intro j h1 h2
    rw [List.getElem_set]
    split
    · subst_vars; simp [hasL]
    · rename_i hne
      have : ¬ (j : Int) = (i : Int) := by omega
      simp [hasL, this]
theorem hasL_at (o : List Int) {i : Nat} (h : i < 16) : (hasL o)[i]? = some (.bool (decide ((i : Int) ∈ o))) := by simp [hasL, h]
/-- .. in a box -/
def Has (w : World) (B bx : Nat) (o : List Int) : Prop := w.ownsRow B 68 1 (.slice (some ⟨bx, 0, none⟩) 16 16) 16 (hasL o)
theorem Has.start (w : World) : Has (w.alloc (.cells #[.bool false, .bool false, .bool false, .bool false, .bool false, .bool false, .bool false, .bool false, .bool false, .bool false, .bool false, .bool false, .bool false, .bool false, .bool false, .bool false] 68)) w.heap.size w.heap.size [] := by
  refine ⟨by simp [hasL], .inr ⟨w.heap.size, 16, _, rfl, Nat.le_refl _, heap_alloc_new w _, by omega, by unfold maxLen; omega, by simp, ?_⟩⟩
  rfl
theorem Has.cell {w : World} {B bx : Nat} {o : List Int} (h : Has w B bx o) {i : Nat} (hi : i < 16) : w.cell? ⟨bx, i, none⟩ = some (.bool (decide ((i : Int) ∈ o))) := by
  rw [World.ownsRow.cellAt h i (by omega), hasL_at o hi]
theorem Has.set {w : World} {B bx : Nat} {o : List Int} (h : Has w B bx o) {i : Nat} (hi : i < 16) : Has (w.setCell ⟨bx, i, none⟩ (.bool true)) B bx (o ++ [(i : Int)]) ∧ w.grownBy (w.setCell ⟨bx, i, none⟩ (.bool true)) (some bx) := by
  obtain ⟨h1, h2⟩ := World.ownsRow.stored h i (.bool true)
  rw [hasL_set o hi] at h1
  exact ⟨h1, h2⟩
theorem take_getD (l : List Int) (k : Nat) (h : k < l.length) : l.take (k + 1) = l.take k ++ [l.getD k 0] := PlayC.in_snoc l k h
set_option maxRecDepth 20000 in
set_option maxHeartbeats 800000 in
theorem isOrder_any (o : List Int) (n : Nat) (a : Option Addr) (ca : Nat) (w : World) (hr : Row w a o) (hn : n ≤ 16) :
    Calls Try.prog 33 #[.slice a o.length ca, .int .i64 n] w fun e w' => e = .returned (.bool (decide (OrdP n o))) ∧ Below w.heap.size w w' := by
  have HR := hid hr
  by_cases hl : o.length = n
  · have HYES := hid (fun (h1 : ∀ x ∈ o, 0 ≤ x ∧ x < (n : Int)) (h2 : o.Nodup) => decide_eq_true (OrdP.of_nodup hl h1 h2))
    have HNO1 := hid (fun x (hx : x ∈ o) (h : ¬ (0 ≤ x ∧ x < (n : Int))) => decide_eq_false (fun (k : OrdP n o) => h (k.bd hx)))
    have HNO2 := hid (fun k (hk : k < o.length) (hx : o.getD k 0 ∈ o.take k) => decide_eq_false (fun (h : OrdP n o) => not_nodup hk hx h.nodup))
    have HND := hid (fun k (hk : k < o.length) (h : (o.take k).Nodup) (hx : o.getD k 0 ∉ o.take k) => nodup_snoc hk h hx)
    have HTK := hid (fun k (hk : k < o.length) => take_getD o k hk)
    have HALL := hid (List.take_of_length_le (Nat.le_refl o.length))
    clear hr
    generalize decide (OrdP n o) = R at *
    have hll := hid hl
    have hn1 : ((o.length : Int) != (n : Int)) = false := by simp [hl]
    rw [hl]
    rw [hl] at hn1 HALL
    have hsz := hid (Nat.le_refl w.heap.size)
    clear hl
    go_enter Try.func33, Try.ntmps33
    go_wp2_with fail
    go_loopw [14] (fun v14 wr => ∃ k : Nat, k ≤ n ∧ v14 = .int .i64 k ∧ Hid (∀ x ∈ o.take k, 0 ≤ x ∧ x < (n : Int)) ∧ Hid ((o.take k).Nodup) ∧ Has wr w.heap.size w.heap.size (o.take k) ∧ Below w.heap.size w wr) (fun v14 _ => n - (intOf v14).toNat)
    case atStart => exact ⟨0, by omega, rfl, (by intro x hx; simp at hx), (by simp : (o.take 0).Nodup), by rw [List.take_zero]; exact Has.start w, (Below.refl _ w).alloc (Nat.le_refl _) _⟩
    case round =>
      obtain ⟨k, hk, rfl, HA, HD, ho, hb⟩ := hrel
      have HO := hid ho
      have HB := hid hb
      by_cases hlt : k < n
      · have hko : k < o.length := by have := hll.out; omega
        obtain ⟨b, off, rfl, hbw, d1⟩ := PlayC.Row.at (Row.below HR.out hb (Nat.le_refl _)) k hko
        have hmem := PlayC.in_mem hko
        have htk := HTK.out k hko
        have H1 := hid (HNO1.out _ hmem)
        have H2 := hid (HNO2.out k hko)
        have H3 := hid (HND.out k hko HD.out)
        have hki : (k : Int) < (n : Int) := by omega
        clear hmem hb
        generalize o.getD k 0 = x at *
        have HTKK := hid htk
        clear htk
        by_cases hx : 0 ≤ x ∧ x < (n : Int)
        · obtain ⟨i, rfl⟩ : ∃ i : Nat, x = i := ⟨x.toNat, by omega⟩
          have hi : i < 16 := by omega
          have x0 : ¬ (i : Int) < 0 := by omega
          have x1 : ¬ (n : Int) ≤ (i : Int) := by omega
          have x2 : (i : Int) < 16 := by omega
          have hc := Has.cell ho hi
          have hfz := World.ownsRow.frozenAt ho i
          have HSET := hid (Has.set ho hi)
          by_cases hmm : (i : Int) ∈ o.take k
          · have hm1 : decide ((i : Int) ∈ o.take k) = true := decide_eq_true hmm
            rw [hm1] at hc
            have HX := hid (H2.out hmm)
            clear hmm hm1 ho
            go_wp2_with fail
            go_ret
            exact ⟨by rw [HX.out]; rfl, HB.out⟩
          · have hm1 : decide ((i : Int) ∈ o.take k) = false := decide_eq_false hmm
            rw [hm1] at hc
            have HX := hid (H3.out hmm)
            have HA2 : Hid (∀ x ∈ o.take (k + 1), 0 ≤ x ∧ x < (n : Int)) := by
              show ∀ x ∈ _, _
              rw [HTKK.out]
              intro y hy
              rcases List.mem_append.1 hy with hy | hy
              · exact HA.out y hy
              · simp at hy; subst hy; omega
            clear hmm hm1 ho
            go_wp2_with fail
            obtain ⟨o4, g4⟩ := HSET.out
            have HB4 := hid (Below.grown HB.out g4 HB.out.size (fun j hj => by simp at hj; omega))
            rw [← HTKK.out] at o4
            clear g4 hc hfz
            go_roundw
            case rel => exact ⟨k + 1, by omega, by go_num, HA2, HX, o4, HB4.out⟩
            case measure => simp [intOf]; omega
        · have HX := hid (H1.out hx)
          have hcase : x < 0 ∨ (¬ x < 0 ∧ (n : Int) ≤ x) := by omega
          clear hx ho
          rcases hcase with x0 | ⟨x0, x1⟩
          all_goals
            go_wp2_with fail
            go_ret
            exact ⟨by rw [HX.out]; rfl, HB.out⟩
      · obtain rfl : k = n := by omega
        have HX := hid (HYES.out (by have := HA.out; rwa [HALL.out] at this) (by have := HD.out; rwa [HALL.out] at this))
        clear ho hb
        go_wp2_with fail
        go_ret
        exact ⟨by rw [HX.out]; rfl, HB.out⟩
  · have hn1 : ((o.length : Int) != (n : Int)) = true := by simp; omega
    rw [decide_eq_false (fun h : OrdP n o => hl h.1)]
    clear hr hl
    go_enter Try.func33, Try.ntmps33
    go_wp2_with fail
    go_ret
    exact ⟨rfl, Below.refl _ _⟩
/-- tasks as rows of three cells -/
def ETk : RowG.Enc Tk := ⟨fun x => [.int .i64 x.1, .int .i64 x.2.1, .int .i64 x.2.2], 3, fun _ => rfl, fun x u hu => by simp at hu; rcases hu with rfl | rfl | rfl <;> rfl⟩
theorem flat_eq (l : List Tk) : ETk.flat l = flatTk l := by
  induction l with
  | nil => rfl
  | cons x r ih => simp [RowG.Enc.flat, flatTk, ETk] at ih ⊢; exact ih
abbrev OwnT := RowG.Own ETk 38
theorem OwnT.tk {w : World} {B : Nat} {v : Value} {l : List Tk} (h : OwnT w B v l) : OwnTk w B v l := by
  have : OwnT w B v l := h
  unfold OwnT RowG.Own at this
  unfold OwnTk
  rw [flat_eq] at this
  exact this
theorem OwnTk.g {w : World} {B : Nat} {v : Value} {l : List Tk} (h : OwnTk w B v l) : OwnT w B v l := by
  have : OwnTk w B v l := h
  unfold OwnTk at this
  unfold OwnT RowG.Own
  rw [flat_eq]
  exact this
theorem madeTk (n : Nat) : (madeCells (Value.agg #[.int .i64 0, .int .i64 0, .int .i64 0]).cells (n * 3)).toList = ETk.flat (List.replicate n (0, 0, 0)) := by
  apply List.ext_getElem?
  intro j
  by_cases hj : j < n * 3
  · have h1 := RowG.flat_get ETk (List.replicate n ((0, 0, 0) : Tk)) (j / 3) (j % 3) (by simp; omega) (by show j % 3 < 3; omega)
    have h2 : j / 3 * ETk.k + j % 3 = j := by show j / 3 * 3 + j % 3 = j; omega
    rw [h2] at h1
    rw [h1]
    have h3 : j % 3 = 0 ∨ j % 3 = 1 ∨ j % 3 = 2 := by omega
    have h4 : j < (madeCells (Value.agg #[.int .i64 0, .int .i64 0, .int .i64 0]).cells (n * 3)).toList.length := by simp [size_madeCells]; exact hj
    rw [List.getElem?_eq_getElem h4]
    rcases h3 with h3 | h3 | h3 <;> simp [ETk, madeCells, Value.cells, h3]
  · rw [List.getElem?_eq_none (by simp [size_madeCells]; omega), List.getElem?_eq_none (by rw [RowG.flat_length]; show _ ≤ j; simp [ETk]; omega)]
/-- the tasks of the first k places, none behind them -/
def putTo (l : List Tk) (o : List Int) (n k : Nat) : List Tk := (List.range n).map fun j => if j < k then RankM.get l (o.getD j 0) else (0, 0, 0)
theorem putTo_len (l : List Tk) (o : List Int) (n k : Nat) : (putTo l o n k).length = n := by simp [putTo]
theorem putTo_zero (l : List Tk) (o : List Int) (n : Nat) : putTo l o n 0 = List.replicate n (0, 0, 0) := by
  apply List.ext_getElem
  · simp [putTo]
  · intro j h1 h2; simp [putTo]
theorem putTo_all (l : List Tk) (o : List Int) {n : Nat} (h : o.length = n) : putTo l o n n = ord l o := by
  apply List.ext_getElem
  · simp [putTo, ord, h]
  · intro j h1 h2
    have h3 : j < n := by simpa [putTo] using h1
    simp [putTo, ord, h3, List.getD, show j < o.length by omega]
theorem putTo_set (l : List Tk) (o : List Int) (n k : Nat) : (putTo l o n k).set k (RankM.get l (o.getD k 0)) = putTo l o n (k + 1) := by
  apply List.ext_getElem
  · simp [putTo]
  · intro j h1 h2
    rw [List.getElem_set]
    split
    · subst_vars; simp [putTo]
    · simp [putTo]
      by_cases c : j < k
      · rw [if_pos c, if_pos (by omega)]
      · rw [if_neg c, if_neg (by omega)]
/-- what Of tells -/
noncomputable def ofE (l : List Tk) (o : List Int) : Int := if tchk l = 0 then (if OrdP l.length o then 0 else 4) else tchk l
noncomputable def ofL (l : List Tk) (o : List Int) : List Tk := if tchk l = 0 ∧ OrdP l.length o then ord l o else []
theorem get_mem' {l : List Tk} {i : Nat} (h : i < l.length) : RankM.get l i ∈ l := get_mem (by omega) (by omega)
set_option maxRecDepth 20000 in
set_option maxHeartbeats 1600000 in
theorem Of_any (l : List Tk) (o : List Int) (a b : Option Addr) (ca cb : Nat) (w : World) (hr : Tks w a l) (hr2 : Row w b o) (hc : l.length ≤ ca) :
    Calls Try.prog 11 #[.slice a l.length ca, .slice b o.length cb] w fun e w' => (∃ v, e = .returned (.tuple #[v, .int .i64 (ofE l o)]) ∧ OwnTk w' w.heap.size v (ofL l o)) ∧ Below w.heap.size w w' := by
  have HR := hid hr
  have HR2 := hid hr2
  have HC := hid (tcheck_any a ca l w hr)
  have HO0 := hid (fun (W : World) n (h : Below w.heap.size w W) (hn : n ≤ 16) => isOrder_any o n b cb W (Row.below hr2 h (Nat.le_refl _)) hn)
  unfold ofE ofL
  by_cases h1 : tchk l = 0
  · rw [if_pos h1]
    rw [h1] at HC ⊢
    have hl := (tchk_zero h1).1
    have HD := hid (fun W (h : Below w.heap.size w W) => HO0.out W l.length h hl)
    by_cases h2 : OrdP l.length o
    · rw [if_pos h2, if_pos ⟨rfl, h2⟩]
      rw [decide_eq_true h2] at HD
      have hbd := hid (fun k (hk : k < l.length) => ord_bd h2 hk)
      have hol := h2.1
      obtain ⟨i0, hi, hz0, hz1, hz2⟩ := info_parts infoTk
      have Hi := hid hi
      have Hz0 := hid hz0
      have Hz1 := hid hz1
      have Hz2 := hid hz2
      have HT0 := hid (putTo_zero l o l.length)
      have HTL := hid (putTo_len l o l.length)
      have HTS := hid (putTo_set l o l.length)
      have HTA := hid (putTo_all l o hol)
      have HMADE := hid (madeTk l.length)
      have HGET := hid (fun i (h : i < l.length) => get_at l h)
      have HOL := hid hol
      clear hi hz0 hz1 hz2 hr hr2 h1 h2 HO0
      generalize ord l o = OL at *
      generalize putTo l o l.length = TB at *
      rw [hol]
      rw [hol] at HD
      clear hol
      generalize hn : l.length = n at *
      have HN := hid hn
      clear hn
      go_enter Try.func11, Try.ntmps11
      go_wp2_with fail
      refine HC.out.mono ?_
      rintro e w1 ⟨rfl, b1⟩
      have HB1 := hid b1
      clear b1
      go_wp2_with fail
      refine (HD.out _ HB1.out).mono ?_
      rintro e w2 ⟨rfl, b2⟩
      have HB2 := hid (bel_of HB1.out b2)
      have hs2 : w.heap.size ≤ w2.heap.size := HB2.out.size
      have HS2 := hid hs2
      clear b2
      go_wp2_with (at_make; refine wpList_make_full _ rfl _ _ 22 rfl w.heap.size 38 i0 (.agg #[.int .i64 0, .int .i64 0, .int .i64 0]) 3 Try.underlying22 Hi.out Hz0.out Hz1.out _ _ _ _ n rfl rfl ?qc1 ?qc2 ?qc3 ?qc4 ?qc5 ?_)
      case qc1 => rfl
      case qc2 => rfl
      case qc3 => rw [Hz2.out]; omega
      case qc4 => unfold maxLen; omega
      case qc5 => exact HS2.out
      intro w3 hown hgrow
      have HB3 := hid (Below.grown HB2.out hgrow HS2.out (fun k hk => by simp at hk))
      have HO3 : Hid (OwnT w3 w.heap.size (vS w2.heap.size n n) (TB 0)) := by
        show RowG.Own _ _ _ _ _ _
        rw [HT0.out]
        unfold RowG.Own
        rw [List.length_replicate, ← HMADE.out]
        exact hown
      clear hown hgrow
      generalize w2.heap.size = g at *
      have hg : w.heap.size ≤ g := HS2.out
      clear hs2
      go_wp2_with fail
      go_loopw [25] (fun v25 wr => ∃ k : Nat, k ≤ n ∧ v25 = .int .i64 k ∧ OwnT wr w.heap.size (vS g n n) (TB k) ∧ Below w.heap.size w wr) (fun v25 _ => n - (intOf v25).toNat)
      case atStart => exact ⟨0, by omega, rfl, HO3.out, HB3.out⟩
      case round =>
        obtain ⟨k, hk, rfl, ho, hb⟩ := hrel
        have HO := hid ho
        have HB := hid hb
        by_cases hlt : k < n
        · obtain ⟨p, off, rfl, _, d1⟩ := PlayC.Row.at (Row.below HR2.out hb (Nat.le_refl _)) k (by have := HOL.out; omega)
          have HS := hid (HTS.out k)
          obtain ⟨x0, x1⟩ := hbd.out k hlt
          generalize hx : o.getD k 0 = x at *
          obtain ⟨i, rfl⟩ : ∃ i : Nat, x = i := ⟨x.toNat, by omega⟩
          have hin : i < n := by omega
          obtain ⟨q, off2, rfl, _, t1, t2, t3⟩ := (HR.out.below hb (Nat.le_refl _)).at i (by have := HN.out; omega)
          rw [HGET.out i hin] at HS
          generalize l.getD i zTk = t at *
          obtain ⟨t4, t5, t6⟩ := t
          simp only at t1 t2 t3
          have hki : (k : Int) < (n : Int) := by omega
          have y0 := ho.cell k 0 (by rw [HTL.out]; exact hlt) (by decide)
          have y1 := ho.cell k 1 (by rw [HTL.out]; exact hlt) (by decide)
          have y2 := ho.cell k 2 (by rw [HTL.out]; exact hlt) (by decide)
          have z0 := fun j => ho.frozen j
          have HST := hid (ho.set k (by rw [HTL.out]; exact hlt) (t4, t5, t6))
          obtain ⟨u0, hu0⟩ : ∃ u, (ETk.enc ((TB k)[k]'(by rw [HTL.out]; exact hlt)))[0]? = some u := ⟨_, rfl⟩
          obtain ⟨u1, hu1⟩ : ∃ u, (ETk.enc ((TB k)[k]'(by rw [HTL.out]; exact hlt)))[1]? = some u := ⟨_, rfl⟩
          obtain ⟨u2, hu2⟩ : ∃ u, (ETk.enc ((TB k)[k]'(by rw [HTL.out]; exact hlt)))[2]? = some u := ⟨_, rfl⟩
          rw [hu0] at y0
          rw [hu1] at y1
          rw [hu2] at y2
          have hk3 : ETk.k = 3 := rfl
          rw [hk3] at y0 y1 y2 HST
          simp only [Nat.add_zero] at y0
          have henc : ETk.enc (t4, t5, t6) = [.int .i64 t4, .int .i64 t5, .int .i64 t6] := rfl
          rw [henc] at HST
          clear ho hb hx hu0 hu1 hu2 hk3 henc
          go_wp2_with fail
          obtain ⟨o4, g4⟩ := HST.out
          have HB4 := hid (Below.grown HB.out g4 HB.out.size (fun j hj => by simp at hj; omega))
          rw [HS.out] at o4
          clear y0 y1 y2 z0 g4
          go_roundw
          case rel => exact ⟨k + 1, by omega, by go_num, o4, HB4.out⟩
          case measure => simp [intOf]; omega
        · obtain rfl : k = n := by omega
          clear ho hb
          go_wp2_with fail
          go_ret2
          have ho := HO.out
          rw [HTA.out] at ho
          exact ⟨⟨_, rfl, OwnT.tk ho⟩, HB.out⟩
    · rw [if_neg h2, if_neg (fun h => h2 h.2)]
      rw [decide_eq_false h2] at HD
      clear hr hr2 h1 h2 HO0
      go_enter Try.func11, Try.ntmps11
      go_wp2_with fail
      refine HC.out.mono ?_
      rintro e w1 ⟨rfl, b1⟩
      have HB1 := hid b1
      clear b1
      go_wp2_with fail
      refine (HD.out _ HB1.out).mono ?_
      rintro e w2 ⟨rfl, b2⟩
      have HB2 := hid (bel_of HB1.out b2)
      clear b2
      go_wp2_with fail
      go_ret2
      exact ⟨⟨_, rfl, OwnTk.nil _ _⟩, HB2.out⟩
  · rw [if_neg h1, if_neg (fun h => h1 h.1)]
    have hn : (tchk l != 0) = true := by simpa using h1
    clear hr hr2 h1 HO0
    generalize tchk l = z at *
    go_enter Try.func11, Try.ntmps11
    go_wp2_with fail
    refine HC.out.mono ?_
    rintro e w1 ⟨rfl, b1⟩
    have HB1 := hid b1
    clear b1
    go_wp2_with fail
    go_ret2
    exact ⟨⟨_, rfl, OwnTk.nil _ _⟩, HB1.out⟩
end RankC
end Go.Proofs.Ytnbfadfhpegddaa

/- Contracts of package rank: Good, canBeLast, slices.IndexFunc at Find's closure. -/
set_option linter.unusedVariables false
namespace Go.Proofs.Ytnbfadfhpegddaa
open Go.RowKit hiding tok
open Go.Shelf Go.Sort
open SpanM SupM SpanC TaskM PlayM RankM
open RowsO hiding Tk
namespace RankC
open TaskC (tchk tchk_zero tchk_of tcheck_any tk_snoc tk_mem)
open NumC (Row)
open RepC (OwnI.row OwnI.set OwnI.frozen OwnI.base' OwnI.made made_zero rchk rchk_zero tblL tbl tbl_len Table_any repV repE repE_none repE_some Reply_any rplE rplV)
open PlayC (Row.below box_cell box_alloc box_new)
set_option maxRecDepth 20000 in
set_option maxHeartbeats 1600000 in
theorem iindex_any (a : Option Addr) (cap : Nat) (l : List Int) (v : Int) (w : World) (hr : Row w a l) (hl : l.length ≤ 100000) :
    Calls Try.prog 51 #[.slice a l.length cap, .int .i64 v] w fun e w' => (∃ i : Int, e = .returned (.int .i64 i) ∧ decide (0 ≤ i) = decide (v ∈ l)) ∧ Below w.heap.size w w' := by
  have HR := hid hr
  clear hr
  go_enter Try.func51, Try.ntmps51
  go_wp2_with fail
  go_loopw [8] (fun v8 wr => ∃ (k : Nat), k ≤ l.length ∧ v8 = .int .i64 k ∧ Hid (v ∉ l.take k) ∧ Below w.heap.size w wr) (fun v8 _ => l.length - (intOf v8).toNat)
  case atStart => exact ⟨0, by omega, rfl, (by simp : v ∉ l.take 0), Below.refl _ _⟩
  case round =>
    obtain ⟨k, hk, rfl, hg, hb⟩ := hrel
    have HB := hid hb
    by_cases hlt : k < l.length
    · obtain ⟨b, off, rfl, _, d1⟩ := PlayC.Row.at (Row.below HR.out hb (Nat.le_refl _)) k hlt
      have hd := PlayC.in_snoc l k hlt
      have hmem := PlayC.in_mem hlt
      have i1 : (k : Int) < (l.length : Int) := by omega
      clear hb
      generalize l.getD k 0 = z at d1 hd hmem
      have HD := hid hd
      have HM := hid hmem
      clear hd hmem
      by_cases hz : v = z
      · have e1 : (v == z) = true := by simp [hz]
        have HX : Hid (v ∈ l) := by rw [hz]; exact HM.out
        clear hz
        go_wp2_with fail
        go_ret
        exact ⟨⟨_, rfl, by rw [decide_eq_true HX.out, decide_eq_true (by omega)]⟩, HB.out⟩
      · have e1 : (v == z) = false := by simp [hz]
        have HX : Hid (v ∉ l.take (k + 1)) := by
          show v ∉ _
          rw [HD.out]
          intro h
          rcases List.mem_append.1 h with h | h
          · exact hg.out h
          · simp at h; exact hz h
        clear hz
        go_wp2_with fail
        go_roundw
        case rel => exact ⟨k + 1, by omega, by go_num, HX, HB.out⟩
        case measure => simp [intOf]; omega
    · have HX : Hid (v ∉ l) := by
        have := hg.out
        rwa [List.take_of_length_le (by omega)] at this
      clear hb
      go_wp2_with fail
      go_ret
      exact ⟨⟨_, rfl, by rw [decide_eq_false HX.out]; simp⟩, HB.out⟩
theorem icontains_any (a : Option Addr) (cap : Nat) (l : List Int) (v : Int) (w : World) (hr : Row w a l) (hl : l.length ≤ 100000) :
    Calls Try.prog 35 #[.slice a l.length cap, .int .i64 v] w fun e w' => e = .returned (.bool (decide (v ∈ l))) ∧ Below w.heap.size w w' := by
  have HI := hid (iindex_any a cap l v w hr hl)
  generalize decide (v ∈ l) = M at *
  clear hr
  go_enter Try.func35, Try.ntmps35
  go_wp2_with (go_at_call 51; refine Calls.mono HI.out ?_; rintro e w' ⟨⟨i, rfl, hi⟩, hb⟩; have hi' := hid hi; clear hi)
  go_ret
  exact ⟨by rw [← hi'.out]; rfl, hb⟩
theorem OwnTk.rows' {w : World} {B : Nat} {v : Value} {l : List Tk} (h : OwnTk w B v l) : ∃ a cap, v = .slice a l.length cap ∧ Tks w a l ∧ l.length ≤ cap ∧ cap ≤ maxLen ∧ (a = none → l.length = 0 ∧ cap = 0) := by
  obtain ⟨a, cap, rfl, ht⟩ := OwnTk.rows h
  rcases h.form with ⟨e, rfl⟩ | ⟨g, c, e, _, _, h1, h2⟩
  · simp only [Value.slice.injEq] at e
    obtain ⟨rfl, _, rfl⟩ := e
    exact ⟨none, 0, rfl, ht, by simp, by unfold maxLen; omega, fun _ => ⟨rfl, rfl⟩⟩
  · simp only [Value.slice.injEq] at e
    obtain ⟨rfl, _, rfl⟩ := e
    exact ⟨_, cap, rfl, ht, h1, h2, by simp⟩
theorem tok_ord {l : List Tk} {o : List Int} (hl : ∀ x ∈ l, tok x) (ho : ∀ i ∈ o, 0 ≤ i ∧ i < (l.length : Int)) : ∀ x ∈ ord l o, tok x := by
  intro x hx
  simp only [ord, List.mem_map] at hx
  obtain ⟨i, hi, rfl⟩ := hx
  obtain ⟨h1, h2⟩ := ho i hi
  exact hl _ (get_mem h1 h2)
theorem tchk_ord {l : List Tk} {o : List Int} (h : tchk l = 0) (ho : ∀ i ∈ o, 0 ≤ i ∧ i < (l.length : Int)) (hn : o.length ≤ 16) : tchk (ord l o) = 0 :=
  tchk_of (by rw [ord_len]; exact hn) (tok_ord (tchk_zero h).2 ho)
/-- what Good tells -/
noncomputable def gdE (l : List Tk) (o : List Int) (size : Int) (sl : List Sp) : Int := if ofE l o = 0 then chk size sl else ofE l o
noncomputable def gdB (l : List Tk) (o : List Int) (size : Int) (sl : List Sp) : Bool := decide (gdE l o size sl = 0 ∧ (0 : Int) ∉ tbl (ord l o) size sl o.length)
theorem ofE_zero {l : List Tk} {o : List Int} (h : ofE l o = 0) : tchk l = 0 ∧ OrdP l.length o := by
  unfold ofE at h
  split at h
  · split at h
    · exact ⟨‹_›, ‹_›⟩
    · simp at h
  · exact absurd h ‹_›
theorem rchk_ord {l : List Tk} {o : List Int} (h : ofE l o = 0) (size : Int) (sl : List Sp) : rchk (ord l o) size sl = chk size sl := by
  obtain ⟨h1, h2⟩ := ofE_zero h
  unfold rchk
  rw [if_pos (tchk_ord h1 (fun i hi => h2.bd hi) (by rw [h2.1]; exact (tchk_zero h1).1))]
theorem tbl_good {m : List Tk} {size : Int} {sl : List Sp} : (0 : Int) ∉ tbl m size sl m.length ↔ RankM.Good (lst size sl) [] m := by
  rw [good_iff]
  constructor
  · intro h i hi
    have h1 : repV m i size sl ≠ 0 := fun e => h (by
      unfold tbl
      rw [List.mem_map]
      exact ⟨i, List.mem_range.2 hi, by rw [if_pos hi, e]⟩)
    unfold repV at h1
    have := rep_iff.1 h1
    simpa [List.getD, hi] using this
  · intro h hm
    unfold tbl at hm
    rw [List.mem_map] at hm
    obtain ⟨i, hi, e⟩ := hm
    have hi := List.mem_range.1 hi
    rw [if_pos hi] at e
    have := rep_iff.2 (h i hi)
    refine this ?_
    unfold repV at e
    simpa [List.getD, hi] using e
theorem gdB_iff {l : List Tk} {o : List Int} {size : Int} {sl : List Sp} : gdB l o size sl = true ↔ gdE l o size sl = 0 ∧ RankM.Good (lst size sl) [] (ord l o) := by
  unfold gdB
  rw [decide_eq_true_eq, ← tbl_good, ord_len]
set_option maxRecDepth 20000 in
set_option maxHeartbeats 1600000 in
theorem Good_any (l : List Tk) (o : List Int) (size : Int) (sl : List Sp) (a b c : Option Addr) (ca cb cc : Nat) (w : World) (hr : Tks w a l) (hr2 : Row w b o) (hs : Sps w c sl) (hc : l.length ≤ ca) :
    Calls Try.prog 12 #[.slice a l.length ca, .slice b o.length cb, .agg #[.int .i64 size, .slice c sl.length cc]] w fun e w' => e = .returned (.tuple #[.bool (gdB l o size sl), .int .i64 (gdE l o size sl)]) ∧ Below w.heap.size w w' := by
  have HO := hid (fun (W : World) (h : Below w.heap.size w W) => Of_any l o a b ca cb W (hr.below h (Nat.le_refl _)) (Row.below hr2 h (Nat.le_refl _)) hc)
  have HSL := hid (fun W (h : Below w.heap.size w W) => hs.below h (Nat.le_refl _))
  unfold gdB gdE
  by_cases h1 : ofE l o = 0
  · rw [if_pos h1]
    have HRC := hid (rchk_ord h1 size sl)
    have HLO : ofL l o = ord l o := by unfold ofL; rw [if_pos (ofE_zero h1)]
    have HLEN := hid (ord_len l o)
    have HL16 := hid (show o.length ≤ 16 by have := ofE_zero h1; rw [this.2.1]; exact (tchk_zero this.1).1)
    rw [h1, HLO] at HO
    clear hr hr2 hs h1 HLO
    generalize ord l o = M at *
    by_cases h2 : chk size sl = 0
    · rw [h2] at HRC ⊢
      have HTB : Hid (tblL M size sl = tbl M size sl o.length) := by
        show _ = _
        unfold tblL
        rw [if_pos HRC.out, HLEN.out]
      have HTN := hid (show (tbl M size sl o.length).length = M.length from tbl_len _ _ _ _)
      have e0 : decide ((0 : Int) = 0 ∧ (0 : Int) ∉ tbl M size sl o.length) = !decide ((0 : Int) ∈ tbl M size sl o.length) := by simp
      rw [e0]
      clear e0 h2
      generalize tbl M size sl o.length = TB at *
      have HCC := hid (fun (p : Option Addr) (q : Nat) (W : World) (h : Row W p TB) (hl : TB.length ≤ 100000) => icontains_any p q TB 0 W h hl)
      generalize decide ((0 : Int) ∈ TB) = D at *
      go_enter Try.func12, Try.ntmps12
      go_wp2_with fail
      refine (HO.out _ (by go_grown)).mono ?_
      rintro e w1 ⟨⟨v, rfl, ho⟩, b1⟩
      have HB1 := hid (box1 b1)
      obtain ⟨am, cm, rfl, hm, hcm, _, _⟩ := OwnTk.rows' ho
      have HT := hid (fun (W : World) (h : Below w1.heap.size w1 W) => Table_any M size sl am c cm cc W (hm.below h (Nat.le_refl _)) (HSL.out W (bel_of (of_alloc HB1.out) h)) hcm)
      rw [HRC.out, HTB.out] at HT
      have c0 : w1.cell? ⟨w.heap.size, 0, none⟩ = some (.int .i64 size) := boxc HB1.out 0
      have c1 : w1.cell? ⟨w.heap.size, 1, none⟩ = some (.slice c sl.length cc) := boxc HB1.out 1
      clear b1 ho hm hcm
      go_wp2_with fail
      refine (HT.out _ (Below.refl _ _)).mono ?_
      rintro e w2 ⟨⟨v, rfl, ho⟩, b2⟩
      have HB2 := hid (box2 HB1.out b2)
      obtain ⟨at2, ct2, rfl, ht2, _⟩ := OwnI.row ho
      have HCT := hid (HCC.out at2 ct2 w2 ht2 (by have := HTN.out; have := HL16.out; have := HLEN.out; omega))
      clear b2 ho ht2 c0 c1
      go_wp2_with fail
      refine HCT.out.mono ?_
      rintro e w3 ⟨rfl, b3⟩
      have HB3 := hid (box2 HB2.out b3)
      clear b3
      go_wp2_with fail
      go_ret2
      exact ⟨rfl, of_alloc HB3.out⟩
    · have hn : (chk size sl != 0) = true := by simpa using h2
      rw [decide_eq_false (fun h => h2 h.1)]
      clear h2
      generalize chk size sl = z at *
      go_enter Try.func12, Try.ntmps12
      go_wp2_with fail
      refine (HO.out _ (by go_grown)).mono ?_
      rintro e w1 ⟨⟨v, rfl, ho⟩, b1⟩
      have HB1 := hid (box1 b1)
      obtain ⟨am, cm, rfl, hm, hcm, _, _⟩ := OwnTk.rows' ho
      have HT := hid (fun (W : World) (h : Below w1.heap.size w1 W) => Table_any M size sl am c cm cc W (hm.below h (Nat.le_refl _)) (HSL.out W (bel_of (of_alloc HB1.out) h)) hcm)
      rw [HRC.out] at HT
      generalize tblL M size sl = TB at *
      have c0 : w1.cell? ⟨w.heap.size, 0, none⟩ = some (.int .i64 size) := boxc HB1.out 0
      have c1 : w1.cell? ⟨w.heap.size, 1, none⟩ = some (.slice c sl.length cc) := boxc HB1.out 1
      clear b1 ho hm hcm
      go_wp2_with fail
      refine (HT.out _ (Below.refl _ _)).mono ?_
      rintro e w2 ⟨⟨v, rfl, ho⟩, b2⟩
      have HB2 := hid (box2 HB1.out b2)
      obtain ⟨at2, ct2, rfl, ht2, _⟩ := OwnI.row ho
      clear b2 ho ht2 c0 c1
      go_wp2_with fail
      go_ret2
      exact ⟨rfl, of_alloc HB2.out⟩
  · rw [if_neg h1, decide_eq_false (fun h => h1 h.1)]
    have hn : (ofE l o != 0) = true := by simpa using h1
    clear hr hr2 hs h1
    generalize ofE l o = z at *
    generalize ofL l o = M at *
    go_enter Try.func12, Try.ntmps12
    go_wp2_with fail
    refine (HO.out _ (by go_grown)).mono ?_
    rintro e w1 ⟨⟨v, rfl, ho⟩, b1⟩
    have HB1 := hid (box1 b1)
    obtain ⟨am, cm, rfl, hm, hcm, _, _⟩ := OwnTk.rows' ho
    clear b1 ho hm hcm
    go_wp2_with fail
    go_ret2
    exact ⟨rfl, of_alloc HB1.out⟩
/-- may x go last, of those of R? as the program looks -/
noncomputable def lastB (size : Int) (sl : List Sp) (l : List Tk) (R : List Int) (x : Int) : Bool := decide (rep (lst size sl) (ord l (R.filter (fun y => decide (y ≠ x)))) (RankM.get l x) ≠ 0)
theorem lastB_iff {size : Int} {sl : List Sp} {l : List Tk} {R : List Int} {x : Int} : lastB size sl l R x = true ↔ Last (lst size sl) l R x := by
  unfold lastB Last
  rw [decide_eq_true_eq, rep_iff]
theorem lastB_no {size : Int} {sl : List Sp} {l : List Tk} {R : List Int} {x : Int} : lastB size sl l R x = false ↔ ¬ Last (lst size sl) l R x := by
  rw [← lastB_iff]; simp
/-- all but x -/
def less (R : List Int) (x : Int) : List Int := R.filter (fun y => decide (y ≠ x))
theorem filter_snoc (R : List Int) (x : Int) {k : Nat} (h : k < R.length) : less (R.take (k + 1)) x = less (R.take k) x ++ (if R.getD k 0 = x then [] else [R.getD k 0]) := by
  unfold less
  rw [take_getD R k h, List.filter_append]
  congr 1
  generalize R.getD k 0 = y
  by_cases e : y = x
  · rw [if_pos e, e]; simp
  · rw [if_neg e]; simp [e]
theorem filter_few {R : List Int} {x : Int} (h : x ∈ R) : (less R x).length < R.length := by
  unfold less
  have h1 : (R.filter (fun y => decide (y ≠ x))).length ≠ R.length := by
    intro e
    have := (List.length_filter_eq_length_iff).1 e x h
    simp at this
  have := List.length_filter_le (fun y => decide (y ≠ x)) R
  omega
set_option maxRecDepth 20000 in
set_option maxHeartbeats 1600000 in
theorem canBeLast_any (l : List Tk) (R : List Int) (x : Nat) (size : Int) (sl : List Sp) (a b c : Option Addr) (ca cb cc : Nat) (w : World) (hr : Tks w a l) (hr2 : Row w b R) (hs : Sps w c sl) (hc : l.length ≤ ca)
    (h1 : tchk l = 0) (h2 : chk size sl = 0) (hR : ∀ i ∈ R, 0 ≤ i ∧ i < (l.length : Int)) (hn : R.length ≤ 16) (hx : (x : Int) ∈ R) :
    Calls Try.prog 42 #[.slice a l.length ca, .slice b R.length cb, .int .i64 x, .agg #[.int .i64 size, .slice c sl.length cc]] w fun e w' => e = .returned (.bool (lastB size sl l R x)) ∧ Below w.heap.size w w' := by
  have HR := hid hr
  have HR2 := hid hr2
  have HSL := hid (fun W (h : Below w.heap.size w W) => hs.below h (Nat.le_refl _))
  have hxl : x < l.length := by have := hR _ hx; omega
  have HRI := hid (fun k (hk : k < R.length) => hR _ (PlayC.in_mem hk))
  have HFS := hid (fun k (hk : k < R.length) => filter_snoc R x hk)
  have HGET := hid (fun i (h : i < l.length) => get_at l h)
  have hfl := filter_few hx
  -- what is asked of Reply
  have HREP := hid (fun (v : Value) (W : World) (ho : OwnTk W (w.heap.size + 1) v (ord l (less R x) ++ [RankM.get l x])) (h : Below w.heap.size w W) => (by
    obtain ⟨am, cm, rfl, hm, hcm, _, _⟩ := OwnTk.rows' ho
    have ht : tchk (ord l (less R x) ++ [RankM.get l x]) = 0 := by
      refine tchk_of (by rw [List.length_append, ord_len]; simp only [List.length_singleton]; omega) ?_
      intro y hy
      rcases List.mem_append.1 hy with hy | hy
      · exact tok_ord (tchk_zero h1).2 (fun i hi => hR i (List.mem_filter.1 (show i ∈ R.filter (fun y => decide (y ≠ (x : Int))) from hi)).1) y hy
      · simp only [List.mem_singleton] at hy; subst hy; exact (tchk_zero h1).2 _ (get_mem' hxl)
    have hrc : rchk (ord l (less R x) ++ [RankM.get l x]) size sl = 0 := by unfold rchk; rw [if_pos ht]; exact h2
    have := Reply_any _ ((ord l (less R x)).length : Int) size sl am c cm cc W hm (HSL.out W h) hcm
    refine ⟨am, cm, rfl, this.mono fun e w' he => ⟨⟨_, _, he.1, ?_⟩, he.2⟩⟩
    unfold rplE
    rw [if_pos hrc, if_pos ⟨by omega, by rw [List.length_append]; simp only [List.length_singleton]; omega⟩, Int.toNat_natCast]
    have hv : repV (ord l (less R x) ++ [RankM.get l x]) (ord l (less R x)).length size sl = rep (lst size sl) (ord l (less R x)) (RankM.get l x) := by
      unfold repV
      simp [List.getD]
    unfold repE
    rw [hv]
    have hlb : lastB size sl l R x = decide (rep (lst size sl) (ord l (less R x)) (RankM.get l x) ≠ 0) := rfl
    rw [hlb]
    by_cases hz : rep (lst size sl) (ord l (less R x)) (RankM.get l x) = 0
    · rw [if_pos hz, hz]; rfl
    · rw [if_neg hz, decide_eq_true hz]; rfl : ∃ am cm, v = .slice am (ord l (less R x) ++ [RankM.get l x]).length cm ∧
      Calls Try.prog 55 #[.slice am (ord l (less R x) ++ [RankM.get l x]).length cm, .int .i64 ((ord l (less R x)).length : Int), .agg #[.int .i64 size, .slice c sl.length cc]] W fun e w' => (∃ p q : Int, e = .returned (.tuple #[.int .i64 p, .int .i64 q]) ∧ (q == 0) = lastB size sl l R x) ∧ Below W.heap.size W w'))
  have HORD := hid (fun o => ord_len l o)
  have hordA : ∀ o y, ord l (o ++ [y]) = ord l o ++ [RankM.get l y] := fun o y => by simp [ord]
  have HORDA := hid hordA
  have HALL := hid (List.take_of_length_le (Nat.le_refl R.length))
  have HFL := hid (show ∀ k, ((less (R.take k) x)).length ≤ 16 from fun k => Nat.le_trans (List.length_filter_le _ _) (by rw [List.length_take]; omega))
  generalize lastB size sl l R x = LB at *
  clear hr hr2 hs h1 h2 hR hx hordA
  have hrl := hid hfl
  clear hfl
  go_enter Try.func42, Try.ntmps42
  go_wp2_with fail
  go_loopw [9, 16] (fun v9 v16 wr => ∃ k : Nat, k ≤ R.length ∧ v16 = .int .i64 k ∧ OwnTk wr (w.heap.size + 1) v9 (ord l (less (R.take k) x)) ∧ Below (w.heap.size + 1) (w.alloc (.cells #[.int .i64 size, .slice c sl.length cc] 26)) wr) (fun _ v16 _ => R.length - (intOf v16).toNat)
  case atStart => exact ⟨0, by omega, rfl, OwnTk.nil _ _, Below.refl _ _⟩
  case round =>
    obtain ⟨k, hk, rfl, ho, hb⟩ := hrel
    have HO := hid ho
    have HB := hid hb
    have hsz : w.heap.size + 1 ≤ wr.heap.size := by have := hb.size; simpa using this
    have HSZ := hid hsz
    obtain ⟨a9, n9, k9, rfl⟩ := OwnTk.slice ho
    by_cases hlt : k < R.length
    · obtain ⟨p, off, rfl, _, d1⟩ := PlayC.Row.at (Row.below HR2.out (of_alloc hb) (Nat.le_refl _)) k hlt
      have HFK := hid (HFS.out k hlt)
      obtain ⟨i0, i1⟩ := HRI.out k hlt
      generalize R.getD k 0 = y at *
      obtain ⟨i, rfl⟩ : ∃ i : Nat, y = i := ⟨y.toNat, by omega⟩
      have hin : i < l.length := by omega
      obtain ⟨q, off2, rfl, _, t1, t2, t3⟩ := (HR.out.below (of_alloc hb) (Nat.le_refl _)).at i hin
      have hki : (k : Int) < (R.length : Int) := by omega
      have HGI := hid (HGET.out i hin)
      generalize l.getD i zTk = t at *
      obtain ⟨t4, t5, t6⟩ := t
      simp only at t1 t2 t3
      clear ho hb hsz
      by_cases he : i = x
      · have e1 : ((i : Int) != (x : Int)) = false := by simp [he]
        have HX : Hid (ord l (less (R.take (k + 1)) x) = ord l (less (R.take k) x)) := by
          show _ = _
          rw [HFK.out, if_pos (by omega), List.append_nil]
        clear he
        go_wp2_with fail
        go_roundw
        case rel => exact ⟨k + 1, by omega, by go_num, by rw [HX.out]; exact HO.out, HB.out⟩
        case measure => simp [intOf]; omega
      · have e1 : ((i : Int) != (x : Int)) = true := by simp; omega
        have HX : Hid (ord l (less (R.take (k + 1)) x) = ord l (less (R.take k) x) ++ [(t4, t5, t6)]) := by
          show _ = _
          rw [HFK.out, if_neg (by omega), HORDA.out, HGI.out]
        clear he
        go_wp2_with (at_builtin; refine wpList_appendTk rfl _ _ rfl (w.heap.size + 1) _ (ord l (less (R.take k) x)) [(t4, t5, t6)] (some ⟨wr.heap.size, 0, none⟩) 1 1 rfl ?qc0 rfl rfl ?qc1 ?qc2 ?qc3 ?qc4 ?qc5 ?_)
        case qc0 => exact World.ownsRow.alloc HO.out _
        case qc1 =>
          refine .inr ⟨_, 0, rfl, fun j hj => ?_⟩
          have hb := box_new wr #[.int .i64 t4, .int .i64 t5, .int .i64 t6] 38
          match j, hj with
          | 0, _ => exact ⟨box_cell hb 0, box_cell hb 1, box_cell hb 2⟩
        case qc2 => simp
        case qc3 => rw [HORD.out]; have := HFL.out k; unfold maxLen; simp only [List.length_singleton]; omega
        case qc4 => rw [HORD.out]; have := HFL.out k; simp only [List.length_singleton]; omega
        case qc5 => have := HSZ.out; simp; omega
        intro v' w2 hown hgrow
        have HB2 := hid (Below.grown (HB.out.alloc (by simpa using HSZ.out) (.cells #[.int .i64 t4, .int .i64 t5, .int .i64 t6] 38)) hgrow (by have := HSZ.out; simp; omega) (fun g hg => (World.ownsRow.lt HO.out g hg).1))
        rw [← HX.out] at hown
        have HO2 := hid hown
        clear hown hgrow t1 t2 t3 d1
        go_wp2_with fail
        go_roundw
        case rel => exact ⟨k + 1, by omega, by go_num, HO2.out, HB2.out⟩
        case measure => simp [intOf]; omega
    · obtain rfl : k = R.length := by omega
      rw [HALL.out] at HO
      have HGX := hid (HGET.out x hxl)
      obtain ⟨q, off2, rfl, _, t1, t2, t3⟩ := (HR.out.below (of_alloc hb) (Nat.le_refl _)).at x hxl
      have hki : (x : Int) < (l.length : Int) := by omega
      have HOL := hid (HORD.out (less R x))
      rw [HGX.out] at HREP
      generalize l.getD x zTk = t at *
      obtain ⟨t4, t5, t6⟩ := t
      simp only at t1 t2 t3
      clear ho hb hsz HFS HFL HALL
      generalize ord l (less R x) = OL at *
      go_wp2_with (at_builtin; refine wpList_appendTk rfl _ _ rfl (w.heap.size + 1) _ OL [(t4, t5, t6)] (some ⟨wr.heap.size, 0, none⟩) 1 1 rfl ?qc0 rfl rfl ?qc1 ?qc2 ?qc3 ?qc4 ?qc5 ?_)
      case qc0 => exact World.ownsRow.alloc HO.out _
      case qc1 =>
        refine .inr ⟨_, 0, rfl, fun j hj => ?_⟩
        have hb := box_new wr #[.int .i64 t4, .int .i64 t5, .int .i64 t6] 38
        match j, hj with
        | 0, _ => exact ⟨box_cell hb 0, box_cell hb 1, box_cell hb 2⟩
      case qc2 => simp
      case qc3 => have := HOL.out; have := hrl.out; unfold maxLen; simp only [List.length_singleton]; omega
      case qc4 => have := HOL.out; have := hrl.out; simp only [List.length_singleton]; omega
      case qc5 => have := HSZ.out; simp; omega
      intro v' w2 hown hgrow
      have HB2 := hid (Below.grown (HB.out.alloc (by simpa using HSZ.out) (.cells #[.int .i64 t4, .int .i64 t5, .int .i64 t6] 38)) hgrow (by have := HSZ.out; simp; omega) (fun g hg => (World.ownsRow.lt HO.out g hg).1))
      obtain ⟨am, cm, rfl, hcall⟩ := HREP.out v' w2 hown (of_alloc HB2.out)
      have HCALL := hid hcall
      have c0 : w2.cell? ⟨w.heap.size, 0, none⟩ = some (.int .i64 size) := boxc HB2.out 0
      have c1 : w2.cell? ⟨w.heap.size, 1, none⟩ = some (.slice c sl.length cc) := boxc HB2.out 1
      have hlen : (OL ++ [(t4, t5, t6)]).length = OL.length + 1 := by simp
      rw [hlen] at HCALL ⊢
      have hol16 : OL.length ≤ 16 := by have := HOL.out; have := hrl.out; omega
      generalize OL.length = m at *
      clear hown hgrow t1 t2 t3 hcall hlen
      go_wp2_with fail
      refine HCALL.out.mono ?_
      rintro e w3 ⟨⟨y1, y2, rfl, hq⟩, b3⟩
      have HB3 := hid (box2 HB2.out b3)
      have HQ := hid hq
      clear b3 c0 c1 hq
      go_wp2_with fail
      go_ret
      exact ⟨by rw [← HQ.out]; rfl, of_alloc HB3.out⟩
end RankC
end Go.Proofs.Ytnbfadfhpegddaa

/- Contracts of package rank: Find's closure, slices.IndexFunc at it, slices.Delete of ints. -/
set_option linter.unusedVariables false
namespace Go.Proofs.Ytnbfadfhpegddaa
open Go.RowKit hiding tok
open Go.Shelf Go.Sort
open SpanM SupM SpanC TaskM PlayM RankM
open RowsO hiding Tk
namespace RankC
open TaskC (tchk tchk_zero tchk_of tcheck_any tk_snoc tk_mem)
open NumC (Row)
open RepC (OwnI.row OwnI.set OwnI.frozen OwnI.base' OwnI.made made_zero)
open PlayC (Row.below box_cell box_alloc box_new)
/-- what the closure finds in its boxes -/
structure Fb (w : World) (l : List Tk) (R : List Int) (size : Int) (sl : List Sp) (a b c : Option Addr) (ca cb cc pl pr ps : Nat) : Prop where
  c0 : w.cell? ⟨pl, 0, none⟩ = some (.slice a l.length ca)
  c1 : w.cell? ⟨pr, 0, none⟩ = some (.slice b R.length cb)
  c2 : w.cell? ⟨ps, 0, none⟩ = some (.int .i64 size)
  c3 : w.cell? ⟨ps, 1, none⟩ = some (.slice c sl.length cc)
  t : Tks w a l
  r : Row w b R
  s : Sps w c sl
theorem Fb.below {w W : World} {l : List Tk} {R : List Int} {size : Int} {sl : List Sp} {a b c : Option Addr} {ca cb cc pl pr ps : Nat} (h : Fb w l R size sl a b c ca cb cc pl pr ps) (k : Below w.heap.size w W) : Fb W l R size sl a b c ca cb cc pl pr ps :=
  ⟨(k.cell (World.block_lt_of_cell? w _ h.c0)).trans h.c0, (k.cell (World.block_lt_of_cell? w _ h.c1)).trans h.c1, (k.cell (World.block_lt_of_cell? w _ h.c2)).trans h.c2, (k.cell (World.block_lt_of_cell? w _ h.c3)).trans h.c3,
    h.t.below k (Nat.le_refl _), Row.below h.r k (Nat.le_refl _), h.s.below k (Nat.le_refl _)⟩
set_option maxRecDepth 20000 in
theorem find1_any (l : List Tk) (R : List Int) (x : Nat) (size : Int) (sl : List Sp) (a b c : Option Addr) (ca cb cc pl pr ps : Nat) (w : World) (h : Fb w l R size sl a b c ca cb cc pl pr ps) (hc : l.length ≤ ca)
    (h1 : tchk l = 0) (h2 : chk size sl = 0) (hR : ∀ i ∈ R, 0 ≤ i ∧ i < (l.length : Int)) (hn : R.length ≤ 16) (hx : (x : Int) ∈ R) :
    Calls Try.prog 41 #[.int .i64 x, .pointer (some ⟨pl, 0, none⟩), .pointer (some ⟨pr, 0, none⟩), .pointer (some ⟨ps, 0, none⟩)] w fun e w' => e = .returned (.bool (lastB size sl l R x)) ∧ Below w.heap.size w w' := by
  have HC := hid (canBeLast_any l R x size sl a b c ca cb cc w h.t h.r h.s hc h1 h2 hR hn hx)
  obtain ⟨c0, c1, c2, c3, _, _, _⟩ := h
  generalize lastB size sl l R x = LB at *
  clear h1 h2 hR hx
  go_enter Try.func41, Try.ntmps41
  go_wp2_with fail
  refine HC.out.mono ?_
  rintro e w1 ⟨rfl, b1⟩
  have HB := hid b1
  clear b1 c0 c1 c2 c3
  go_wp2_with fail
  go_ret
  exact ⟨rfl, HB.out⟩
/-- the first that is meant, or none -/
def At (q : Int → Bool) (R : List Int) (i : Int) : Prop := (i = -1 ∧ ∀ y ∈ R, q y = false) ∨ ∃ u x v, R = u ++ x :: v ∧ i = (u.length : Int) ∧ q x = true ∧ ∀ y ∈ u, q y = false
theorem at_some {q : Int → Bool} {R : List Int} {k : Nat} (hk : k < R.length) (h0 : ∀ y ∈ R.take k, q y = false) (h1 : q (R.getD k 0) = true) : At q R k := by
  refine .inr ⟨R.take k, R.getD k 0, R.drop (k + 1), ?_, by rw [List.length_take]; omega, h1, h0⟩
  conv => lhs; rw [← List.take_append_drop k R, List.drop_eq_getElem_cons hk]
  simp [List.getD, hk]
theorem at_more {q : Int → Bool} {R : List Int} {k : Nat} (hk : k < R.length) (h0 : ∀ y ∈ R.take k, q y = false) (h1 : q (R.getD k 0) = false) : ∀ y ∈ R.take (k + 1), q y = false := by
  intro y hy
  rw [take_getD R k hk] at hy
  rcases List.mem_append.1 hy with hy | hy
  · exact h0 y hy
  · simp only [List.mem_singleton] at hy; subst hy; exact h1
abbrev vF (pl pr ps : Nat) : Value := .func (.func 41) #[] #[.pointer (some ⟨pl, 0, none⟩), .pointer (some ⟨pr, 0, none⟩), .pointer (some ⟨ps, 0, none⟩)]
set_option maxRecDepth 20000 in
set_option maxHeartbeats 800000 in
theorem index_any (q : Int → Bool) (R : List Int) (b : Option Addr) (cb pl pr ps : Nat) (w : World) (hr : Row w b R) (hn : R.length ≤ 16)
    (hq : ∀ W, Below w.heap.size w W → ∀ y ∈ R, Calls Try.prog 41 #[.int .i64 y, .pointer (some ⟨pl, 0, none⟩), .pointer (some ⟨pr, 0, none⟩), .pointer (some ⟨ps, 0, none⟩)] W fun e w' => e = .returned (.bool (q y)) ∧ Below W.heap.size W w') :
    Calls Try.prog 40 #[.slice b R.length cb, vF pl pr ps] w fun e w' => (∃ i : Int, e = .returned (.int .i64 i) ∧ At q R i) ∧ Below w.heap.size w w' := by
  have HR := hid hr
  have HQ := hid hq
  have HALL := hid (List.take_of_length_le (Nat.le_refl R.length))
  clear hr hq
  go_enter Try.func40, Try.ntmps40
  go_wp2_with fail
  go_loopw [8] (fun v8 wr => ∃ (k : Nat), k ≤ R.length ∧ v8 = .int .i64 k ∧ Hid (∀ y ∈ R.take k, q y = false) ∧ Below w.heap.size w wr) (fun v8 _ => R.length - (intOf v8).toNat)
  case atStart => exact ⟨0, by omega, rfl, (by intro y hy; simp at hy), Below.refl _ _⟩
  case round =>
    obtain ⟨k, hk, rfl, hg, hb⟩ := hrel
    have HB := hid hb
    by_cases hlt : k < R.length
    · obtain ⟨p, off, rfl, _, d1⟩ := PlayC.Row.at (Row.below HR.out hb (Nat.le_refl _)) k hlt
      have HIN := hid (HQ.out wr hb _ (PlayC.in_mem hlt))
      have HS := hid (fun h1 => at_some hlt hg.out h1)
      have HM := hid (fun h1 => at_more hlt hg.out h1)
      have i1 : (k : Int) < (R.length : Int) := by omega
      clear hb
      generalize R.getD k 0 = y at *
      have hcase : q y = true ∨ q y = false := by cases q y <;> simp
      rcases hcase with hy | hy
      · have HX := hid (HS.out hy)
        rw [hy] at HIN
        clear hy
        go_wp2_with fail
        refine HIN.out.mono ?_
        rintro e w1 ⟨rfl, b1⟩
        have HB1 := hid (bel_of HB.out b1)
        clear b1
        go_wp2_with fail
        go_ret
        exact ⟨⟨_, rfl, HX.out⟩, HB1.out⟩
      · have HX := hid (HM.out hy)
        rw [hy] at HIN
        clear hy
        go_wp2_with fail
        refine HIN.out.mono ?_
        rintro e w1 ⟨rfl, b1⟩
        have HB1 := hid (bel_of HB.out b1)
        clear b1
        go_wp2_with fail
        go_roundw
        case rel => exact ⟨k + 1, by omega, by go_num, HX.out, HB1.out⟩
        case measure => simp [intOf]; omega
    · obtain rfl : k = R.length := by omega
      rw [HALL.out] at hg
      clear hb
      go_wp2_with fail
      go_ret
      exact ⟨⟨_, rfl, .inl ⟨rfl, hg.out⟩⟩, HB.out⟩
/-! one of ints is taken away -/
def flI (l : List Int) : List Value := l.map (Value.int .i64)
theorem flI_len (l : List Int) : (flI l).length = l.length := by simp [flI]
theorem flI_one (l : List Int) : ∀ u ∈ flI l, u.oneCell' = true := by
  intro u hu
  simp only [flI, List.mem_map] at hu
  obtain ⟨x, _, rfl⟩ := hu
  rfl
theorem flI_append (l r : List Int) : flI (l ++ r) = flI l ++ flI r := by simp [flI]
theorem run_clearI (w : World) (ty : TypeId) (b o c : Nat) (hc : (w.cell? ⟨b, o, none⟩).isSome = true) (hf : w.frozen? ⟨b, o, none⟩ = false) :
    (Builtin.clear_ #[23] ty #[.slice (some ⟨b, o, none⟩) 1 c]).run Try.prog w = .ok (.tuple #[]) (w.setCells b o [.int .i64 0]) := by
  have hst := run_storeCells_cells (P := Try.prog) b o [.int .i64 0] 0 w (by intro j hj; have : j = 0 := by simpa using hj
                                                                             subst this; simpa using hc) (by intro j hj; have : j = 0 := by simpa using hj
                                                                                                             subst this; simpa using hf) (by intro v hv; simp at hv; rcases hv with rfl; rfl)
  simp only [Nat.add_zero] at hst
  have hv := Try.zeroValue3
  have hzc : (Builtin.zeroCells (Value.int .i64 0).cells 1).toList = [.int .i64 0] := by first | kernel_rfl | (simp [Builtin.zeroCells, Value.cells]; done) | (simp [Builtin.zeroCells]; rfl)
  simp [Builtin.clear_, run_underlying Try.underlying23, hv, hzc, hst]
set_option maxRecDepth 100000 in
set_option maxHeartbeats 1600000 in
theorem deleteI_any (B g cap : Nat) (p q : List Int) (x : Int) (w : World) (h : OwnI w B (vS g (p ++ x :: q).length cap) (p ++ x :: q)) (hB : B ≤ w.heap.size) (hl : (p ++ x :: q).length ≤ 200) :
    Calls Try.prog 43 #[vS g (p ++ x :: q).length cap, .int .i64 p.length, .int .i64 ((p.length : Int) + 1)] w fun e w' => e = .returned (vS g (p ++ q).length cap) ∧ OwnI w' B (vS g (p ++ q).length cap) (p ++ q) ∧ w.grownBy w' (some g) := by
  obtain ⟨i0, hi, hz0, hz1, hz2⟩ := info_parts infoInt
  have Hi := hid hi
  have Hz1 := hid hz1
  clear hi hz0 hz1 hz2
  have hcap : (p ++ x :: q).length ≤ cap ∧ cap ≤ maxLen := by
    rcases h.form with ⟨e, _⟩ | ⟨g', c', e, _, _, h1, h2⟩
    · simp at e
    · simp only [Value.slice.injEq] at e; rw [e.2.2]; exact ⟨h1, h2⟩
  have hgB : B ≤ g := (World.ownsRow.lt h g rfl).1
  obtain ⟨hc1, hc2⟩ := hcap
  unfold maxLen at hc2
  have hlen : (p ++ x :: q).length = p.length + 1 + q.length := by simp; omega
  have hlen2 : (p ++ q).length = p.length + q.length := by simp
  have hfl : flI (p ++ x :: q) = flI p ++ [.int .i64 x] ++ flI q := by simp [flI]
  obtain ⟨W1, hW⟩ : ∃ W1, W1 = (w.drew).setCells g p.length (flI q) := ⟨_, rfl⟩
  have hd : OwnI w.drew B (vS g (p ++ x :: q).length cap) (p ++ x :: q) := World.ownsRow.drew h
  have hW1 := own_setCells (w := w.drew) (flI q) p.length hd
  rw [← hW] at hW1
  obtain ⟨o1, gr1⟩ := hW1
  have hcl : ∀ ty, (Builtin.clear_ #[23] ty #[.slice (some ⟨g, p.length + q.length, none⟩) 1 (cap - (p.length + q.length))]).run Try.prog W1 = .ok (.tuple #[]) (W1.setCells g (p.length + q.length) [.int .i64 0]) := fun ty =>
    run_clearI W1 ty g _ _ (by
      have := World.ownsRow.cellAt o1 (p.length + q.length) (by rw [hlen]; omega)
      rw [this, List.getElem?_eq_getElem (by rw [o1.1, hlen]; omega)]; rfl) (World.ownsRow.frozenAt o1 _)
  obtain ⟨o2, gr2⟩ := own_setCells (w := W1) [.int .i64 0] (p.length + q.length) o1
  have hres : OwnI (W1.setCells g (p.length + q.length) [.int .i64 0]) B (vS g (p ++ q).length cap) (p ++ q) := by
    have h3 := own_take o2 (show (p ++ q).length ≤ (p ++ x :: q).length by rw [hlen, hlen2]; omega)
    show World.ownsRow _ _ _ _ _ _ _
    have e1 : (putL (putL (flI (p ++ x :: q)) p.length (flI q)) (p.length + q.length) [.int .i64 0]).take ((p ++ q).length * 1) = flI (p ++ q) := by
      obtain ⟨b1, b2, hb, hb1⟩ : ∃ b1 b2, ([.int .i64 x] : List Value) ++ flI q = b1 ++ b2 ∧ b1.length = (flI q).length := ⟨(([.int .i64 x] : List Value) ++ flI q).take (flI q).length, (([.int .i64 x] : List Value) ++ flI q).drop (flI q).length, (List.take_append_drop _ _).symm, by rw [List.length_take, List.length_append]; omega⟩
      have hb2 : b2.length = 1 := by
        have := congrArg List.length hb
        simp only [List.length_append, List.length_singleton] at this
        omega
      rw [hfl, List.append_assoc, hb, ← List.append_assoc, ← flI_len p, putL_eq _ _ _ _ hb1]
      have e2 : (flI p).length + q.length = (flI p ++ flI q).length := by rw [List.length_append, flI_len q]
      have e3 := putL_eq [.int .i64 0] (flI p ++ flI q) b2 [] (by rw [hb2]; rfl)
      rw [List.append_nil, List.append_nil] at e3
      rw [e2, e3, Nat.mul_one, hlen2, ← flI_len p, e2, List.take_left, flI_append]
    have e4 : flI (p ++ q) = (p ++ q).map (Value.int .i64) := rfl
    rw [← e4, ← e1]
    exact h3
  have HRES := hid hres
  have HBB : Hid (w.grownBy (W1.setCells g (p.length + q.length) [.int .i64 0]) (some g)) := (grown_drew gr1).trans gr2
  obtain ⟨A, hA, hsrc⟩ : ∃ A : Addr, (if cap = p.length + 1 then some (⟨g, 0, none⟩ : Addr) else some ⟨g, p.length + 1, none⟩) = some A ∧ Hid (∀ t u, (flI q)[t]? = some u → w.drew.cell? (A.add t) = some u) := by
    by_cases hcq : cap = p.length + 1
    · refine ⟨⟨g, 0, none⟩, by simp [hcq], fun t u hu => ?_⟩
      have h0 : q = [] := List.length_eq_zero_iff.1 (by omega)
      rw [h0] at hu
      simp [flI] at hu
    · refine ⟨⟨g, p.length + 1, none⟩, by simp [hcq], fun t u hu => ?_⟩
      have ht : t < q.length := by
        have := (List.getElem?_eq_some_iff.1 hu).1
        rwa [flI_len] at this
      have ha : (⟨g, p.length + 1, none⟩ : Addr).add t = ⟨g, p.length + 1 + t, none⟩ := by
        by_cases h0 : t = 0 <;> simp [Addr.add, h0]
      rw [ha]
      have hcell := World.ownsRow.cellAt hd (p.length + 1 + t) (by rw [hlen]; omega)
      have e4 : (p ++ x :: q).map (Value.int .i64) = flI (p ++ x :: q) := rfl
      rw [hcell, e4, hfl, List.getElem?_append_right (by rw [List.length_append, flI_len, List.length_singleton]; omega)]
      rw [List.length_append, flI_len, List.length_singleton, show p.length + 1 + t - (p.length + 1) = t by omega]
      exact hu
  have s1 : Hid ((flI q).length = q.length * 1) := by show _ = _; rw [flI_len, Nat.mul_one]
  have s2 := hid (flI_one q)
  have s3 : Hid (∀ t, t < (flI q).length → (w.drew.cell? ⟨g, 0 + p.length * 1 + t, none⟩).isSome = true ∧ w.drew.frozen? ⟨g, 0 + p.length * 1 + t, none⟩ = false) := by
    intro t ht
    rw [flI_len] at ht
    have hcell := World.ownsRow.cellAt hd (p.length + t) (by rw [hlen]; omega)
    rw [Nat.zero_add, Nat.mul_one, hcell, List.getElem?_eq_getElem (by rw [hd.1, hlen]; omega)]
    exact ⟨rfl, World.ownsRow.frozenAt hd _⟩
  have HW := hid hW
  have HCL := hid hcl
  rw [hlen2] at HRES ⊢
  rw [hlen] at hl hc1 ⊢
  clear h hd o1 gr1 o2 gr2 hres hW hcl hfl hlen hlen2
  have hpc : p.length ≤ cap := by omega
  have hpc2 : p.length + 1 ≤ cap := by omega
  generalize flI q = news at *
  generalize hpl : p.length = n at *
  generalize hql : q.length = m at *
  have mixed : Try.prog.follows .mixedOrders = true := by kernel_rfl
  rw [show (n : Int) + 1 = ((n + 1 : Nat) : Int) by omega]
  obtain ⟨J, hJ⟩ : ∃ J, n + 1 = J := ⟨_, rfl⟩
  rw [hJ] at hA hpc2 hl hc1 ⊢
  have hJ2 : (n : Int) < (J : Int) := by omega
  have hJm : (J : Int) ≤ (J : Int) + (m : Int) := by omega
  have hJ3 : ((n : Int) == (J : Int)) = false := by rw [beq_eq_false_iff_ne]; omega
  go_enter Try.func43, Try.ntmps43
  go_wp2_with fail
  go_region_law_o (refine step_append_room rfl (.tmp 22) (.tmp 25) 23 rfl 3 i0 1 Try.underlying23 Hi.out Hz1.out g 0 n cap (by simp [Act.eval, Act.put]) A m (cap - J) news (by simp [Act.eval, Act.put]) s1.out hsrc.out s2.out (by omega) s3.out ?_; rw [Nat.zero_add, Nat.mul_one, ← HW.out])
  have hcl := HCL.out
  have hone : J + m - (n + m) = 1 := by omega
  have hone2 : J - n = 1 := by omega
  have hcn : ¬ cap = n + m := by omega
  have hx1 : (n : Int) + (m : Int) ≤ (J : Int) + (m : Int) := by omega
  have hx2 : J + m ≤ cap := by omega
  have hx3 : n + m ≤ cap := by omega
  go_wp2_with fail
  go_ret
  exact ⟨rfl, HRES.out, HBB.out⟩
end RankC
end Go.Proofs.Ytnbfadfhpegddaa

/- Contract of package rank: Find. -/
set_option linter.unusedVariables false
namespace Go.Proofs.Ytnbfadfhpegddaa
open Go.RowKit hiding tok
open Go.Shelf Go.Sort
open SpanM SupM SpanC TaskM PlayM RankM
open RowsO hiding Tk
namespace RankC
open TaskC (tchk tchk_zero tchk_of tcheck_any tk_snoc tk_mem)
open NumC (Row)
open RepC (OwnI.row OwnI.set OwnI.frozen OwnI.base' OwnI.made made_zero rchk rchk_zero)
open PlayC (Row.below box_cell box_alloc box_new)
theorem least_nat (p : Nat → Prop) : ∀ n, p n → ∃ k, p k ∧ ∀ j, j < k → ¬ p j := by
  intro n
  induction n using Nat.strongRecOn with
  | ind n ih =>
    intro h
    by_cases c : ∃ j, j < n ∧ p j
    · obtain ⟨j, hj, hp⟩ := c
      exact ih j hj hp
    · exact ⟨n, h, fun j hj hp => c ⟨j, hj, hp⟩⟩
theorem found_exists (S : Int → Int) (l : List Tk) : ∀ n (left : List Int), left.length = n → ∃ r, RankM.Found S l left r := by
  intro n
  induction n with
  | zero =>
    intro left h
    have : left = [] := List.length_eq_zero_iff.1 h
    subst this
    exact ⟨_, .nil⟩
  | succ n ih =>
    intro left h
    by_cases c : ∃ k u j v, List.length u = k ∧ left = u ++ j :: v ∧ Rep S (ord l (u ++ v)) (RankM.get l j)
    · obtain ⟨k0, c0⟩ := c
      obtain ⟨k, ⟨u, j, v, hk, rfl, hr⟩, hmin⟩ := least_nat (fun k => ∃ u j v, List.length u = k ∧ left = u ++ j :: v ∧ Rep S (ord l (u ++ v)) (RankM.get l j)) k0 c0
      obtain ⟨r, hf⟩ := ih (u ++ v) (by simp at h ⊢; omega)
      exact ⟨_, .step (fun u' j' v' e hl hr' => hmin u'.length (by omega) ⟨u', j', v', rfl, e, hr'⟩) hr hf⟩
    · exact ⟨none, .no (by intro e; subst e; simp at h) (fun u j v e hr => c ⟨u.length, u, j, v, rfl, e, hr⟩)⟩
/-- what is found -/
noncomputable def fnd (l : List Tk) (size : Int) (sl : List Sp) : Option (List Int) := Classical.epsilon (RankM.Found (lst size sl) l (nums l.length))
theorem fnd_spec (l : List Tk) (size : Int) (sl : List Sp) : RankM.Found (lst size sl) l (nums l.length) (fnd l size sl) :=
  Classical.epsilon_spec (found_exists (lst size sl) l _ (nums l.length) rfl)
theorem fnd_eq {l : List Tk} {size : Int} {sl : List Sp} {r : Option (List Int)} (h : RankM.Found (lst size sl) l (nums l.length) r) : fnd l size sl = r := (fnd_spec l size sl).one h
def someE : Option (List Int) → Int
  | some _ => 0
  | none => 11
noncomputable def fndE (l : List Tk) (size : Int) (sl : List Sp) : Int := if rchk l size sl = 0 then someE (fnd l size sl) else rchk l size sl
noncomputable def fndL (l : List Tk) (size : Int) (sl : List Sp) : List Int := if rchk l size sl = 0 then (fnd l size sl).getD [] else []
/-- a box that holds a row of ints -/
def Bx (w : World) (B h : Nat) (v : Value) : Prop := w.ownsRow B 23 1 (.slice (some ⟨h, 0, none⟩) 1 1) 1 [v]
theorem Bx.cell {w : World} {B h : Nat} {v : Value} (k : Bx w B h v) : w.cell? ⟨h, 0, none⟩ = some v := by rw [World.ownsRow.cellAt k 0 (by omega)]; rfl
theorem Bx.frozen {w : World} {B h : Nat} {v : Value} (k : Bx w B h v) : w.frozen? ⟨h, 0, none⟩ = false := World.ownsRow.frozenAt k 0
theorem Bx.set {w : World} {B h : Nat} {v : Value} (k : Bx w B h v) (u : Value) : Bx (w.setCell ⟨h, 0, none⟩ u) B h u ∧ w.grownBy (w.setCell ⟨h, 0, none⟩ u) (some h) := World.ownsRow.stored k 0 u
theorem Bx.start (w : World) (B : Nat) (hB : B ≤ w.heap.size) (v : Value) : Bx (w.alloc (.cells #[v] 23)) B w.heap.size v :=
  ⟨rfl, .inr ⟨w.heap.size, 1, _, rfl, hB, heap_alloc_new w _, by omega, by unfold maxLen; omega, by simp, rfl⟩⟩
structure FS (w W : World) (x y : Array Value) (go gr h n m cr : Nat) (O R : List Int) (v : Value) : Prop where
  b : B2 w W x y 22 26
  o : OwnI W (w.heap.size + 2) (vS go n n) O
  r : OwnI W (w.heap.size + 2) (vS gr m cr) R
  s : Bx W (w.heap.size + 2) h v
  hn : n = O.length
  hm : m = R.length
  n1 : go ≠ gr
  n2 : go ≠ h
  n3 : gr ≠ h
theorem FS.step {w W V : World} {x y : Array Value} {go gr h n m cr : Nat} {O R : List Int} {v : Value} (f : FS w W x y go gr h n m cr O R v) (k : Below W.heap.size W V) : FS w V x y go gr h n m cr O R v :=
  ⟨f.b.step k, f.o.below k (Nat.le_refl _), f.r.below k (Nat.le_refl _), World.ownsRow.kept f.s (grown_of_below k (Nat.le_refl _) none) (.inr (by simp [Value.ownBlock])), f.hn, f.hm, f.n1, f.n2, f.n3⟩
theorem FS.lt {w W : World} {x y : Array Value} {go gr h n m cr : Nat} {O R : List Int} {v : Value} (f : FS w W x y go gr h n m cr O R v) : w.heap.size + 2 ≤ go ∧ w.heap.size + 2 ≤ gr ∧ w.heap.size + 2 ≤ h :=
  ⟨(World.ownsRow.lt f.o go rfl).1, (World.ownsRow.lt f.r gr rfl).1, (World.ownsRow.lt f.s h rfl).1⟩
theorem FS.order {w W : World} {x y : Array Value} {go gr h n m cr : Nat} {O R : List Int} {v : Value} (f : FS w W x y go gr h n m cr O R v) (p : Nat) (z : Int) : FS w (W.setCell ⟨go, p, none⟩ (.int .i64 z)) x y go gr h n m cr (O.set p z) R v := by
  obtain ⟨h1, h2⟩ := OwnI.set f.o f.hn p z
  have hl := f.lt
  exact ⟨f.b.row h2 (fun g hg => by simp at hg; omega), h1, World.ownsRow.kept f.r h2 (.inr (by simpa [Value.ownBlock] using f.n1.symm)), World.ownsRow.kept f.s h2 (.inr (by simpa [Value.ownBlock] using f.n2.symm)), by simpa using f.hn, f.hm, f.n1, f.n2, f.n3⟩
theorem FS.del {w W V : World} {x y : Array Value} {go gr h n m m' cr : Nat} {O R R' : List Int} {v : Value} (f : FS w W x y go gr h n m cr O R v) (k : OwnI V (w.heap.size + 2) (vS gr m' cr) R') (hm : m' = R'.length) (hg : W.grownBy V (some gr)) : FS w V x y go gr h n m' cr O R' v := by
  have hl := f.lt
  exact ⟨f.b.row hg (fun g hg => by simp at hg; omega), World.ownsRow.kept f.o hg (.inr (by simpa [Value.ownBlock] using f.n1)), k, World.ownsRow.kept f.s hg (.inr (by simpa [Value.ownBlock] using f.n3.symm)), f.hn, hm, f.n1, f.n2, f.n3⟩
theorem FS.box {w W : World} {x y : Array Value} {go gr h n m cr : Nat} {O R : List Int} {v : Value} (f : FS w W x y go gr h n m cr O R v) (u : Value) : FS w (W.setCell ⟨h, 0, none⟩ u) x y go gr h n m cr O R u := by
  obtain ⟨h1, h2⟩ := f.s.set u
  have hl := f.lt
  exact ⟨f.b.row h2 (fun g hg => by simp at hg; omega), World.ownsRow.kept f.o h2 (.inr (by simpa [Value.ownBlock] using f.n2)), World.ownsRow.kept f.r h2 (.inr (by simpa [Value.ownBlock] using f.n3)), h1, f.hn, f.hm, f.n1, f.n2, f.n3⟩
theorem FS.row {w W : World} {x y : Array Value} {go gr h n m cr : Nat} {O R : List Int} {v : Value} (f : FS w W x y go gr h n m cr O R v) : Row W (some ⟨gr, 0, none⟩) R := by
  obtain ⟨a, c, e, hr, _⟩ := OwnI.row f.r
  simp only [Value.slice.injEq] at e
  rw [e.1]
  exact hr
/-- the places of those that are found, from the end -/
def back (m : Nat) (T : List Int) : List Int := List.replicate m 0 ++ T
theorem back_set (p : Nat) (T : List Int) (x : Int) : (back (p + 1) T).set p x = back p (x :: T) := by
  unfold back
  rw [List.replicate_succ', List.append_assoc, List.set_append_right _ _ (by simp)]
  simp
theorem back_len (m : Nat) (T : List Int) : (back m T).length = m + T.length := by simp [back]
theorem back_zero (T : List Int) : back 0 T = T := by simp [back]
/-- what is left is found just as all is -/
def Left (S : Int → Int) (l : List Tk) (R T : List Int) : Prop := R.length + T.length = l.length ∧ R.Nodup ∧ (∀ i ∈ R, 0 ≤ i ∧ i < (l.length : Int)) ∧ ∀ r, RankM.Found S l R r → RankM.Found S l (nums l.length) (r.map fun o => o ++ T)
theorem Left.start (S : Int → Int) (l : List Tk) : Left S l (nums l.length) [] :=
  ⟨by simp [nums_len], nums_nodup _, fun i hi => mem_nums.1 hi, fun r h => by cases r <;> simpa using h⟩
theorem Left.next {S : Int → Int} {l : List Tk} {u v T : List Int} {x : Int} (h : Left S l (u ++ x :: v) T) (h1 : Last S l (u ++ x :: v) x) (h2 : ∀ y ∈ u, ¬ Last S l (u ++ x :: v) y) : Left S l (u ++ v) (x :: T) := by
  obtain ⟨a1, a2, a3, a4⟩ := h
  refine ⟨by simp at a1 ⊢; omega, ?_, fun i hi => a3 i (by simp at hi ⊢; rcases hi with h | h <;> simp [h]), fun r hr => ?_⟩
  · refine a2.sublist ?_
    exact (List.Sublist.refl u).append (List.sublist_cons_self x v)
  · have := a4 _ (found_step a2 h1 h2 hr)
    cases r <;> simpa using this
theorem Left.none {S : Int → Int} {l : List Tk} {R T : List Int} (h : Left S l R T) (hne : R ≠ []) (h1 : ∀ y ∈ R, ¬ Last S l R y) : RankM.Found S l (nums l.length) none := h.2.2.2 _ (found_no h.2.1 hne h1)
theorem Left.done {S : Int → Int} {l : List Tk} {R T : List Int} (h : Left S l R T) (he : R = []) : RankM.Found S l (nums l.length) (some T) := by
  subst he
  simpa using h.2.2.2 _ RankM.Found.nil
theorem FS.start {w w4 : World} {x y : Array Value} {go gr n : Nat} (b : B2 w w4 x y 22 26) (o : OwnI w4 (w.heap.size + 2) (vS go n n) (List.replicate n 0)) (r : OwnI w4 (w.heap.size + 2) (vS gr n n) (nums n)) (h1 : go < gr) (h2 : gr < w4.heap.size) :
    FS w (w4.alloc (.cells #[vS gr n n] 23)) x y go gr w4.heap.size n n n (back n []) (nums n) (vS gr n n) :=
  ⟨b.row (World.grownBy_alloc _ _ none) (fun g hg => by simp at hg), by unfold back; rw [List.append_nil]; exact World.ownsRow.alloc o _, World.ownsRow.alloc r _, Bx.start w4 _ b.size _, by simp [back], (nums_len n).symm, by omega, by omega, by omega⟩
set_option maxRecDepth 20000 in
set_option maxHeartbeats 1600000 in
theorem Find_any (l : List Tk) (size : Int) (sl : List Sp) (a c : Option Addr) (ca cc : Nat) (w : World) (hr : Tks w a l) (hs : Sps w c sl) (hc : l.length ≤ ca) :
    Calls Try.prog 23 #[.slice a l.length ca, .agg #[.int .i64 size, .slice c sl.length cc]] w fun e w' => (∃ v, e = .returned (.tuple #[v, .int .i64 (fndE l size sl)]) ∧ OwnI w' w.heap.size v (fndL l size sl)) ∧ Below w.heap.size w w' := by
  have HC1 := hid (fun W (h : Below w.heap.size w W) => tcheck_any a ca l W (hr.below h (Nat.le_refl _)))
  have HC2 := hid (fun W (h : Below w.heap.size w W) => check_any size c cc sl W (hs.below h (Nat.le_refl _)))
  unfold fndE fndL
  by_cases h1 : tchk l = 0
  · by_cases h2 : chk size sl = 0
    · have h3 : rchk l size sl = 0 := by unfold rchk; rw [if_pos h1]; exact h2
      rw [if_pos h3, if_pos h3]
      rw [h1] at HC1
      rw [h2] at HC2
      have hl := (tchk_zero h1).1
      -- the closure
      have HCL := hid (fun (W : World) (R T O : List Int) (go gr h m cr : Nat) (f : FS w W #[.slice a l.length ca] #[.int .i64 size, .slice c sl.length cc] go gr h l.length m cr O R (vS gr m cr)) (hL : Left (lst size sl) l R T) => (by
        have hm := f.hm
        subst hm
        have fb : Fb W l R size sl a (some ⟨gr, 0, none⟩) c ca cr cc w.heap.size h (w.heap.size + 1) := ⟨f.b.c0 0, f.s.cell, f.b.c1 0, f.b.c1 1, hr.below f.b.bel (Nat.le_refl _), f.row, hs.below f.b.bel (Nat.le_refl _)⟩
        have hn : R.length ≤ 16 := by have := hL.1; omega
        refine index_any (lastB size sl l R) R (some ⟨gr, 0, none⟩) cr w.heap.size h (w.heap.size + 1) W f.row hn (fun V hV y hy => ?_)
        obtain ⟨y0, y1⟩ := hL.2.2.1 y hy
        obtain ⟨i, rfl⟩ : ∃ i : Nat, y = i := ⟨y.toNat, by omega⟩
        exact find1_any l R i size sl a _ c ca cr cc _ _ _ V (fb.below hV) hc h1 h2 hL.2.2.1 hn hy : Calls Try.prog 40 #[vS gr m cr, vF w.heap.size h (w.heap.size + 1)] W fun e w' => (∃ i : Int, e = .returned (.int .i64 i) ∧ At (lastB size sl l R) R i) ∧ Below W.heap.size W w'))
      have HNEXT := hid (fun (u v T : List Int) (x : Int) (hL : Left (lst size sl) l (u ++ x :: v) T) (k1 : lastB size sl l (u ++ x :: v) x = true) (k2 : ∀ y ∈ u, lastB size sl l (u ++ x :: v) y = false) => hL.next (lastB_iff.1 k1) (fun y hy => lastB_no.1 (k2 y hy)))
      have HNONE := hid (fun (R T : List Int) (hL : Left (lst size sl) l R T) (hne : R ≠ []) (k : ∀ y ∈ R, lastB size sl l R y = false) => fnd_eq (hL.none hne (fun y hy => lastB_no.1 (k y hy))))
      have HDONE := hid (fun (R T : List Int) (hL : Left (lst size sl) l R T) (he : R = []) => fnd_eq (hL.done he))
      have HST := hid (Left.start (lst size sl) l)
      have HLL := hid (fun (R T : List Int) (hL : Left (lst size sl) l R T) => hL.1)
      obtain ⟨i0, hi, hz0, hz1, hz2⟩ := info_parts infoInt
      have Hi := hid hi
      have Hz0 := hid hz0
      have Hz1 := hid hz1
      have Hz2 := hid hz2
      have HBK := hid back_set
      have HBZ := hid back_zero
      clear hr hs h1 h2 h3 hi hz0 hz1 hz2
      generalize Left (lst size sl) l = LF at *
      generalize lastB size sl l = LB at *
      generalize fnd l size sl = FN at *
      generalize hn : l.length = n at *
      clear hn
      go_enter Try.func23, Try.ntmps23
      go_wp2_with fail
      refine (HC1.out _ (B2.start w _ _ _ _).bel).mono ?_
      rintro e w1 ⟨rfl, b1⟩
      have HB1 := hid ((B2.start w #[.slice a n ca] #[.int .i64 size, .slice c sl.length cc] 22 26).step b1)
      have c0 := HB1.out.c0 0
      have c1 := HB1.out.c1 0
      have c2 := HB1.out.c1 1
      simp at c0 c1 c2
      clear b1
      go_wp2_with fail
      refine (HC2.out _ HB1.out.bel).mono ?_
      rintro e w2 ⟨rfl, b2⟩
      have HB2 := hid (HB1.out.step b2)
      clear b2 c0 c1 c2
      have c0 := HB2.out.c0 0
      have HS2 := hid HB2.out.size
      simp at c0
      go_wp2_with (at_make; refine wpList_make_full _ rfl _ _ 23 rfl (w.heap.size + 2) 3 i0 (.int .i64 0) 1 Try.underlying23 Hi.out Hz0.out Hz1.out _ _ _ _ n rfl rfl ?qc1 ?qc2 ?qc3 ?qc4 ?qc5 ?_)
      case qc1 => rfl
      case qc2 => rfl
      case qc3 => rw [Hz2.out]; omega
      case qc4 => unfold maxLen; omega
      case qc5 => exact HS2.out
      intro w3 hown hgrow
      have HB3 := hid (HB2.out.row hgrow (fun k hk => by simp at hk))
      have HO3 := hid (OwnI.made hown)
      have HGO := hid (show w2.heap.size < w3.heap.size from (World.ownsRow.lt hown w2.heap.size rfl).2)
      clear hown hgrow c0
      generalize w2.heap.size = go at *
      have c0 := HB3.out.c0 0
      simp at c0
      go_wp2_with (first | (go_at_call 39; refine (numbers_any n hl _).mono ?_; rintro e w4 ⟨⟨gr, rfl, hgr, ho4⟩, b4⟩; have HB4 := hid (HB3.out.step b4); have HO4 := hid (HO3.out.below b4 (Nat.le_refl _)); have HR4 := hid (OwnI.base' ho4 HB3.out.size); have HGR := hid (show go < gr by have := HGO.out; omega); have HGH := hid (show gr < w4.heap.size from (World.ownsRow.lt ho4 gr rfl).2); have HW5 := hid (FS.start HB4.out HO4.out HR4.out HGR.out HGH.out); have hc5 := HW5.out.b.c0 0; simp at hc5; clear b4 hgr ho4 c0))
      clear hc5
      generalize hw5 : w4.alloc (.cells #[vS gr n n] 23) = w5 at *
      clear hw5 HB4 HO4 HR4 HGH
      generalize w4.heap.size = h at *
      clear HB1 HB2 HB3 HO3 HS2 HGO HGR HC1 HC2
      go_loopw [10] (fun v10 wr => ∃ (R T : List Int) (m cr : Nat) (z : Int), v10 = .int .i64 z ∧ z = (m : Int) - 1 ∧ FS w wr #[.slice a n ca] #[.int .i64 size, .slice c sl.length cc] go gr h n m cr (back m T) R (vS gr m cr) ∧ LF R T) (fun v10 _ => (intOf v10 + 1).toNat)
      case atStart => exact ⟨nums n, [], n, n, _, rfl, by omega, HW5.out, HST.out⟩
      case round =>
        obtain ⟨R, T, m, cr, z, rfl, hz, hf, hL⟩ := hrel
        have HF := hid hf
        have HL := hid hL
        have hmn : m + T.length = n := by have := HLL.out R T hL; have := hf.hm; omega
        clear hf hL
        cases m with
        | zero =>
          have hz0 : ¬ (0 : Int) ≤ z := by omega
          have HE := hid (HDONE.out R T HL.out (List.length_eq_zero_iff.1 HF.out.hm.symm))
          clear hz hmn
          go_wp2_with fail
          go_ret2
          rw [HE.out]
          refine ⟨⟨_, rfl, ?_⟩, HF.out.b.bel⟩
          have ho := HF.out.o
          rw [HBZ.out] at ho
          exact OwnI.base' ho (by omega)
        | succ p =>
          obtain rfl : z = (p : Int) := by omega
          have HI := hid (HCL.out wr R T _ go gr h (p + 1) cr HF.out HL.out)
          have HM := hid HF.out.hm
          have cs := HF.out.s.cell
          have hp0 : (0 : Int) ≤ (p : Int) := by omega
          have hpn : (p : Int) < (n : Int) := by omega
          have HPN := hid hpn
          clear hz hmn
          obtain ⟨M, hM⟩ : ∃ M, M = p + 1 := ⟨_, rfl⟩
          rw [← hM] at HF HI HM cs
          have HMM := hid hM
          clear hM
          go_wp2_with fail
          refine HI.out.mono ?_
          rintro e w6 ⟨⟨i, rfl, hat⟩, b6⟩
          have HF6 := hid (HF.out.step b6)
          clear b6 cs HF HI
          rcases hat with ⟨rfl, hall⟩ | ⟨u, x, v, rfl, rfl, k1, k2⟩
          · have HE := hid (HNONE.out R T HL.out (by intro e; have h1 := HM.out; have h2 := HMM.out; rw [e] at h1; simp only [List.length_nil] at h1; omega) hall)
            clear hall
            go_wp2_with fail
            go_ret2
            rw [HE.out]
            exact ⟨⟨_, rfl, World.ownsRow_nil _ _ _ _⟩, HF6.out.b.bel⟩
          · have HLN := hid (HNEXT.out u v T x HL.out k1 k2)
            have hlen : (u ++ x :: v).length = u.length + 1 + v.length := by simp; omega
            have huM : u.length < M := by have := HM.out; omega
            have cs := HF6.out.s.cell
            have cx := OwnI.cell HF6.out.r u.length (by omega)
            have ex : (u ++ x :: v).getD u.length 0 = x := by simp [List.getD]
            rw [ex] at cx
            have co := OwnI.cell HF6.out.o p (by have := HF6.out.hn; have := HPN.out; omega)
            have cf := OwnI.frozen HF6.out.o HF6.out.hn p
            have HF7 := hid (HF6.out.order p x)
            have cs7 := HF7.out.s.cell
            have HD := hid (by
              have r7 := HF7.out.r
              have hm7 := HF7.out.hm
              rw [hm7] at r7
              exact deleteI_any (w.heap.size + 2) gr cr u v x _ r7 HF7.out.b.size (by have := HM.out; have := HMM.out; have := HPN.out; omega))
            rw [← HM.out] at HD
            have hu0 : (0 : Int) ≤ (u.length : Int) := by omega
            have hu1 : (u.length : Int) < (M : Int) := by omega
            have hu2 : (u.length : Int) < 16 := by have := HMM.out; have := HPN.out; omega
            have HUV := hid (show (u ++ v).length = p by have := HM.out; have := HMM.out; simp; omega)
            rw [HMM.out, HBK.out] at HF7
            rw [← HMM.out] at HF7
            rw [HUV.out] at HD
            clear k1 k2 hlen huM ex HF6 HL HM
            generalize u.length = k at *
            go_wp2_with fail
            clear cs cx co cf
            generalize wp7 : w6.setCell ⟨go, p, none⟩ (.int .i64 x) = w7 at *
            clear wp7
            with_reducible refine HD.out.mono ?_
            rintro e w8 ⟨rfl, o8, g8⟩
            have HF8 := hid (HF7.out.del o8 HUV.out.symm g8)
            have cs8 := HF8.out.s.cell
            have cf8 := HF8.out.s.frozen
            have HF9 := hid (HF8.out.box (vS gr p cr))
            clear o8 g8 cs7 HF7 HD
            go_wp2_with fail
            go_roundw
            case rel => exact ⟨u ++ v, x :: T, p, cr, _, rfl, by first | rfl | omega, HF9.out, HLN.out⟩
            case measure => first | (simp [intOf]; done) | (simp [intOf]; omega)
    · have h3 : rchk l size sl ≠ 0 := by unfold rchk; rw [if_pos h1]; exact h2
      have e3 : rchk l size sl = chk size sl := by unfold rchk; rw [if_pos h1]
      rw [if_neg h3, if_neg h3, e3]
      rw [h1] at HC1
      have hn : (chk size sl != 0) = true := by simpa using h2
      clear hr hs h1 h2 h3 e3
      generalize chk size sl = z at *
      go_enter Try.func23, Try.ntmps23
      go_wp2_with fail
      refine (HC1.out _ (B2.start w _ _ _ _).bel).mono ?_
      rintro e w1 ⟨rfl, b1⟩
      have HB1 := hid ((B2.start w #[.slice a l.length ca] #[.int .i64 size, .slice c sl.length cc] 22 26).step b1)
      have c0 := HB1.out.c0 0
      have c1 := HB1.out.c1 0
      have c2 := HB1.out.c1 1
      simp at c0 c1 c2
      clear b1
      go_wp2_with fail
      refine (HC2.out _ HB1.out.bel).mono ?_
      rintro e w2 ⟨rfl, b2⟩
      have HB2 := hid (HB1.out.step b2)
      clear b2 c0 c1 c2
      go_wp2_with fail
      go_ret2
      exact ⟨⟨_, rfl, World.ownsRow_nil _ _ _ _⟩, HB2.out.bel⟩
  · have h3 : rchk l size sl ≠ 0 := by unfold rchk; rw [if_neg h1]; exact h1
    have e3 : rchk l size sl = tchk l := by unfold rchk; rw [if_neg h1]
    rw [if_neg h3, if_neg h3, e3]
    have hn : (tchk l != 0) = true := by simpa using h1
    clear hr hs h1 h3 e3
    generalize tchk l = z at *
    go_enter Try.func23, Try.ntmps23
    go_wp2_with fail
    refine (HC1.out _ (B2.start w _ _ _ _).bel).mono ?_
    rintro e w1 ⟨rfl, b1⟩
    have HB1 := hid ((B2.start w #[.slice a l.length ca] #[.int .i64 size, .slice c sl.length cc] 22 26).step b1)
    clear b1
    go_wp2_with fail
    go_ret2
    exact ⟨⟨_, rfl, World.ownsRow_nil _ _ _ _⟩, HB1.out.bel⟩
end RankC
end Go.Proofs.Ytnbfadfhpegddaa
