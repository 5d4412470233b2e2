/- Contracts: swapRangeCmpFunc, rotateCmpFunc of jobs. -/
import Derived.Test.YtgplaoojimpbaaaSrtM
set_option linter.unusedVariables false
namespace Go.Proofs.Ytgplaoojimpbaaa
open Go.RowKit hiding tok
open Go.Shelf Go.Sort
open SpanM SpanC PlayM
namespace PlayC
open RowG
theorem grown_refl (w : World) (r : Option Nat) : w.grownBy w r := ⟨rfl, rfl, rfl, Nat.le_refl _, fun _ _ _ => rfl⟩
set_option maxRecDepth 20000 in
set_option maxHeartbeats 1600000 in
theorem swapRange_any (g n cap B a b k : Nat) (cv : Value) (l : List Jb) (w : World) (h : OwnJ w B (vS g n cap) l) (hn : n = l.length) (hab : a + k ≤ b) (hb : b + k ≤ l.length) (hl : l.length ≤ 4000) :
    Calls Try.prog 81 #[vS g n cap, .int .i64 a, .int .i64 b, .int .i64 k, cv] w fun e w' => e = .returned (.tuple #[]) ∧ ∃ l', OwnJ w' B (vS g n cap) l' ∧ w.grownBy w' (some g) ∧ Rg a (b + k) l l' ∧ (∀ x, gt l' x = swF (gt l) a b k x) := by
  obtain ⟨K, hK⟩ : ∃ K : Nat, K = 7 := ⟨7, rfl⟩
  have z72 := sizeK K hK
  have a72 := Try.isAgg72
  have mixed := mixd
  have HK := hid hK
  have HO := hid h
  have HN := hid hn
  have hnl : n ≤ 4000 := by omega
  have hbn : b + k ≤ n := by omega
  clear h hK hn hb hl
  go_enter Try.func81, Try.ntmps81
  go_wp2_with fail
  go_loopw [10] (fun vi wr => ∃ (i : Nat) (li : List Jb), i ≤ k ∧ vi = .int .i64 i ∧ OwnJ wr B (vS g n cap) li ∧ w.grownBy wr (some g) ∧ Rg a (b + k) l li ∧ (∀ x, gt li x = swF (gt l) a b i x)) (fun vi _ => k - (intOf vi).toNat)
  case atStart => exact ⟨0, l, by omega, rfl, HO.out, grown_refl _ _, Rg.refl _ _ _, fun x => (swF_zero _ _ _ _).symm⟩
  case round =>
    obtain ⟨i, li, hi, rfl, ho, hg, hr, hx⟩ := hrel
    have HO1 := hid ho
    have HG1 := hid hg
    have HR1 := hid hr
    have HX1 := hid hx
    have hli : li.length = n := by rw [hr.len, HN.out]
    clear ho hg hr hx
    by_cases hlt : i < k
    · obtain ⟨p, hp⟩ : ∃ p : Nat, p = a + i := ⟨_, rfl⟩
      obtain ⟨q, hq⟩ : ∃ p : Nat, p = b + i := ⟨_, rfl⟩
      obtain ⟨cx, cy, hcx, hcy, l1, l2, s1, s2, HS⟩ := sw_ready K HK.out HO1.out p q (by omega) (by omega)
      have HE : Hid (∀ x, gt (sw li p q) x = swF (gt l) a b (i + 1) x) := by
        show ∀ x, _
        intro x
        rw [gt_sw li p q x (by omega) (by omega), swF_succ _ _ _ _ (by omega), HX1.out, HX1.out, HX1.out, hp, hq]
      have HR2 : Hid (Rg a (b + k) l (sw li p q)) := HR1.out.trans (Rg.sw (by omega) (by omega) (by omega) (by omega) (by omega) (by omega))
      have e1 : ((a : Int) + (i : Int)).toNat = p := by omega
      have e2 : ((b : Int) + (i : Int)).toNat = q := by omega
      have i1 : (0 : Int) ≤ (a : Int) + (i : Int) := by omega
      have j1 : (0 : Int) ≤ (b : Int) + (i : Int) := by omega
      have i2 : (a : Int) + (i : Int) < (n : Int) := by omega
      have j2 : (b : Int) + (i : Int) < (n : Int) := by omega
      clear hp hq hli
      go_wp2_with fail
      go_big_region_o
      all_goals go_wp2
      go_roundw
      case rel => exact ⟨i + 1, _, by omega, by go_num, HS.out.1, HG1.out.trans HS.out.2, HR2.out, HE.out⟩
      case measure => simp [intOf]; omega
    · obtain rfl : i = k := by omega
      go_wp2_with fail
      go_end0
      exact ⟨rfl, li, HO1.out, HG1.out, HR1.out, HX1.out⟩
theorem rotF_ext {f f' : Nat → Jb} (h : ∀ x, f x = f' x) (a m b k : Nat) : rotF f a m b k = rotF f' a m b k := by
  rw [show f = f' from funext h]
set_option maxRecDepth 20000 in
set_option maxHeartbeats 1600000 in
theorem rotate_any (g n cap B a m b : Nat) (cv : Value) (l : List Jb) (w : World) (h : OwnJ w B (vS g n cap) l) (hn : n = l.length) (ham : a < m) (hmb : m < b) (hb : b ≤ l.length) (hl : l.length ≤ 4000) :
    Calls Try.prog 76 #[vS g n cap, .int .i64 a, .int .i64 m, .int .i64 b, cv] w fun e w' => e = .returned (.tuple #[]) ∧ ∃ l', OwnJ w' B (vS g n cap) l' ∧ w.grownBy w' (some g) ∧ Rg a b l l' ∧ (∀ x, gt l' x = rotF (gt l) a m b x) := by
  have HO := hid h
  have HN := hid hn
  have hnl : n ≤ 4000 := by omega
  have hbn : b ≤ n := by omega
  clear h hn hb hl
  go_enter Try.func76, Try.ntmps76
  go_wp2_with fail
  go_loopw [10, 11] (fun vi vj wr => ∃ (i j : Nat) (li : List Jb), 0 < i ∧ 0 < j ∧ i + a ≤ m ∧ m + j ≤ b ∧ vi = .int .i64 i ∧ vj = .int .i64 j ∧ OwnJ wr B (vS g n cap) li ∧ w.grownBy wr (some g) ∧ Rg a b l li ∧ (∀ x, rotF (gt li) (m - i) m (m + j) x = rotF (gt l) a m b x)) (fun vi vj _ => (intOf vi).toNat + (intOf vj).toNat)
  case atStart => exact ⟨m - a, b - m, l, by omega, by omega, by omega, by omega, by go_num, by go_num, HO.out, grown_refl _ _, Rg.refl _ _ _, fun x => by rw [show m - (m - a) = a by omega, show m + (b - m) = b by omega]⟩
  case round =>
    obtain ⟨i, j, li, hi, hj, him, hjb, rfl, rfl, ho, hg, hr, hx⟩ := hrel
    have HO1 := hid ho
    have HG1 := hid hg
    have HR1 := hid hr
    have HX1 := hid hx
    have hli : li.length = n := by rw [hr.len, HN.out]
    clear ho hg hr hx
    have e1 : (m : Int) - (i : Int) = ((m - i : Nat) : Int) := by omega
    have w1 : IntKind.i64.wrap ((m : Int) - (i : Int)) = ((m - i : Nat) : Int) := by rw [IntKind.wrap_i64]; omega
    by_cases heq : i = j
    · subst heq
      have hne : ((i : Int) != (i : Int)) = false := by simp
      have HC := hid (swapRange_any g n cap B (m - i) m i cv li wr HO1.out hli.symm (by omega) (by omega) (by omega))
      generalize hA : m - i = A at *
      go_wp2_with (first | (go_at_call 81; refine HC.out.mono ?_; rintro e w1 ⟨rfl, l', ho, hg, hr, hx⟩))
      go_end0
      refine ⟨rfl, l', ho, HG1.out.trans hg, HR1.out.trans (hr.wide (by omega) (by omega)), fun x => ?_⟩
      rw [hx, ← HX1.out x, ← hA, rot_eq _ _ _ _ (by omega)]
    · have hne : ((i : Int) != (j : Int)) = true := by simp; omega
      by_cases hgt : j < i
      · have HC := hid (swapRange_any g n cap B (m - i) m j cv li wr HO1.out hli.symm (by omega) (by omega) (by omega))
        generalize hA : m - i = A at *
        have e3 : (i : Int) - (j : Int) = ((i - j : Nat) : Int) := by omega
        go_wp2_with (first | (go_at_call 81; refine HC.out.mono ?_; rintro e w1 ⟨rfl, l', ho, hg, hr, hx⟩; have HO2 := hid ho; have HG2 := hid hg; have HR2 := hid hr; have HX2 := hid hx; clear ho hg hr hx))
        go_roundw
        case rel => exact ⟨i - j, j, l', by omega, by omega, by omega, by omega, by go_num, rfl, HO2.out, HG1.out.trans HG2.out, HR1.out.trans (HR2.out.wide (by omega) (by omega)), fun x => by rw [rotF_ext HX2.out, ← hA, rot_gt _ _ _ _ _ hj hgt (by omega), hA, HX1.out]⟩
        case measure => simp [intOf]; omega
      · have HC := hid (swapRange_any g n cap B (m - i) (m + j - i) i cv li wr HO1.out hli.symm (by omega) (by omega) (by omega))
        have w2 : IntKind.i64.wrap ((m : Int) + (j : Int) - (i : Int)) = ((m + j - i : Nat) : Int) := by rw [IntKind.wrap_i64]; omega
        have e2 : (m : Int) + (j : Int) - (i : Int) = ((m + j - i : Nat) : Int) := by omega
        generalize hA : m - i = A at *
        generalize hA2 : m + j - i = A2 at *
        go_wp2_with (first | (go_at_call 81; refine HC.out.mono ?_; rintro e w1 ⟨rfl, l', ho, hg, hr, hx⟩; have HO2 := hid ho; have HG2 := hid hg; have HR2 := hid hr; have HX2 := hid hx; clear ho hg hr hx))
        go_roundw
        case rel => exact ⟨i, j - i, l', by omega, by omega, by omega, by omega, rfl, by go_num, HO2.out, HG1.out.trans HG2.out, HR1.out.trans (HR2.out.wide (by omega) (by omega)), fun x => by rw [rotF_ext HX2.out, ← hA, ← hA2, rot_lt _ _ _ _ _ hi (by omega) (by omega), hA, HX1.out]⟩
        case measure => simp [intOf]; omega
end PlayC
end Go.Proofs.Ytgplaoojimpbaaa
