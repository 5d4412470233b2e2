/- Contracts: cmp.Compare, the comparison of jobs, exchange of two jobs. -/
import Derived.Test.YtgplaoojimpbaaaPlyB
import Derived.Shelf.RegionOpenPlain
import Derived.Shelf.SlSortCmp.QuietGrown
set_option linter.unusedVariables false
namespace Go.Proofs.Ytgplaoojimpbaaa
open Go.RowKit hiding tok
open Go.Shelf Go.Sort
open SpanM SpanC PlayM
namespace PlayC
open RowG
def cmpI (x y : Int) : Int := if x < y then -1 else if y < x then 1 else 0
theorem nan_any (x : Int) (w : World) : Calls Try.prog 54 #[.int .i64 x] w fun e w' => e = .returned (.bool false) ∧ w' = w := by
  go_enter Try.func54, Try.ntmps54
  go_wp2
  go_ret
  exact ⟨rfl, rfl⟩
theorem compare_any (x y : Int) (w : World) : Calls Try.prog 36 #[.int .i64 x, .int .i64 y] w fun e w' => e = .returned (.int .i64 (cmpI x y)) ∧ w' = w := by
  unfold cmpI
  by_cases h : x < y
  · rw [if_pos h]
    go_enter Try.func36, Try.ntmps36
    go_wp2_with (go_at_call 54; refine (nan_any _ _).mono ?_; rintro e w' ⟨rfl, hw⟩; replace hw := hw.symm; subst hw)
    go_ret
    exact ⟨rfl, rfl⟩
  · rw [if_neg h]
    by_cases h2 : y < x
    · rw [if_pos h2]
      go_enter Try.func36, Try.ntmps36
      go_wp2_with (go_at_call 54; refine (nan_any _ _).mono ?_; rintro e w' ⟨rfl, hw⟩; replace hw := hw.symm; subst hw)
      go_ret
      exact ⟨rfl, rfl⟩
    · rw [if_neg h2]
      go_enter Try.func36, Try.ntmps36
      go_wp2_with (go_at_call 54; refine (nan_any _ _).mono ?_; rintro e w' ⟨rfl, hw⟩; replace hw := hw.symm; subst hw)
      go_ret
      exact ⟨rfl, rfl⟩
/-- a job as a value -/
def vJ (x : Jb) : Value := .agg #[.int .i64 x.t, .int .i64 x.k, .int .i64 x.c, .int .i64 x.a, .int .i64 x.d, .int .i64 x.f, .int .i64 x.r]
set_option maxRecDepth 20000 in
theorem pcmp_any (x y : Jb) (w : World) : Calls Try.prog 35 #[vJ x, vJ y] w fun e w' => e = .returned (.int .i64 (cmpI x.c y.c)) ∧ ∃ q os, w' = grow (w.drewN q) os := by
  unfold vJ
  go_enter Try.func35, Try.ntmps35
  go_wp2_with (go_at_call 36; refine (compare_any _ _ _).mono ?_; rintro e w' ⟨rfl, hw⟩; replace hw := hw.symm; subst hw)
  go_ret
  exact ⟨rfl, 0, _, by rw [alloc_eq_grow, alloc_eq_grow, grow_grow]; rfl⟩
def zJ : Jb := ⟨0, 0, 0, 0, 0, 0, 0⟩
/-- two of them exchanged -/
def sw (l : List Jb) (i j : Nat) : List Jb := (l.set i (l.getD j zJ)).set j (l.getD i zJ)
theorem sw_len (l : List Jb) (i j : Nat) : (sw l i j).length = l.length := by simp [sw]
theorem getD_at (l : List Jb) (i : Nat) (h : i < l.length) : l.getD i zJ = l[i] := by simp [List.getD, h]
abbrev vS (g n cap : Nat) : Value := .slice (some ⟨g, 0, none⟩) n cap
theorem grown_drew {w w' : World} {r : Option Nat} (h : w.drew.grownBy w' r) : w.grownBy w' r := ⟨h.os, h.tape, h.output, h.size, h.block⟩
/-- what an exchange needs, and leaves -/
theorem sw_ready (K : Nat) (hK : K = 7) {w : World} {B g n cap : Nat} {l : List Jb} (h : OwnJ w B (vS g n cap) l) (i j : Nat) (hi : i < l.length) (hj : j < l.length) :
    ∃ cx cy : List Value, cx.length = K ∧ cy.length = K ∧ Sem.run Try.prog (loadCellsFrom ⟨g, i * K, none⟩ 0 K #[]) w.drew = .ok cx.toArray w.drew ∧ Sem.run Try.prog (loadCellsFrom ⟨g, j * K, none⟩ 0 K #[]) w.drew = .ok cy.toArray w.drew ∧
      Sem.run Try.prog (storeCells ⟨g, i * K, none⟩ cy 0) w.drew = .ok () (w.drew.setCells g (i * K) cy) ∧
      Sem.run Try.prog (storeCells ⟨g, j * K, none⟩ cx 0) (w.drew.setCells g (i * K) cy) = .ok () ((w.drew.setCells g (i * K) cy).setCells g (j * K) cx) ∧
      Hid (OwnJ ((w.drew.setCells g (i * K) cy).setCells g (j * K) cx) B (vS g n cap) (sw l i j) ∧ w.grownBy ((w.drew.setCells g (i * K) cy).setCells g (j * K) cx) (some g)) := by
  subst hK
  have h : OwnJ w.drew B (vS g n cap) l := World.ownsRow.drew h
  refine ⟨EJ.enc l[i], EJ.enc l[j], rfl, rfl, h.load i hi, h.load j hj, h.store i hi _, (h.set i hi l[j]).1.store j (by simpa using hj) _, ?_⟩
  show _ ∧ _
  obtain ⟨h1, g1⟩ := h.set i hi l[j]
  obtain ⟨h2, g2⟩ := h1.set j (by simpa using hj) l[i]
  refine ⟨?_, grown_drew (g1.trans g2)⟩
  unfold sw
  rw [getD_at l i hi, getD_at l j hj]
  exact h2
theorem sizeK (K : Nat) (hK : K = 7) : ∀ w, (Go.sizeOf 72).run Try.prog w = .ok K w := by
  intro w; rw [hK]; exact Try.sizeOf72 w
theorem mixd : Try.prog.follows .mixedOrders = true := by kernel_rfl
set_option maxRecDepth 20000 in
set_option maxHeartbeats 1600000 in
theorem Swap_any (g n cap B i j : Nat) (l : List Jb) (w : World) (h : OwnJ w B (vS g n cap) l) (hn : n = l.length) (hi : i < l.length) (hj : j < l.length) (hl : l.length ≤ 4000) :
    Calls Try.prog 100 #[vS g n cap, .int .i64 i, .int .i64 j] w fun e w' => e = .returned (.tuple #[]) ∧ OwnJ w' B (vS g n cap) (sw l i j) ∧ w.grownBy w' (some g) := by
  subst hn
  obtain ⟨K, hK⟩ : ∃ K : Nat, K = 7 := ⟨7, rfl⟩
  obtain ⟨cx, cy, hx, hy, l1, l2, s1, s2, HO⟩ := sw_ready K hK h i j hi hj
  have z72 := sizeK K hK
  have a72 := Try.isAgg72
  have mixed := mixd
  have i1 : (i : Int) < (l.length : Int) := by omega
  have j1 : (j : Int) < (l.length : Int) := by omega
  clear h hi hj hK
  generalize hn : l.length = n at *
  go_enter Try.func100, Try.ntmps100
  go_wp2_with fail
  go_big_region_o
  all_goals go_wp2
  go_end0
  exact ⟨rfl, HO.out⟩
end PlayC
end Go.Proofs.Ytgplaoojimpbaaa
