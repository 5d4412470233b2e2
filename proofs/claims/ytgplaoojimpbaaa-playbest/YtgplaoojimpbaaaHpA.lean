/- Contracts: the queue's methods. -/
import Derived.Test.YtgplaoojimpbaaaSrtA
set_option linter.unusedVariables false
namespace Go.Proofs.Ytgplaoojimpbaaa
open Go.RowKit hiding tok
open Go.Shelf Go.Sort
open SpanM SpanC PlayM
namespace PlayC
open RowG
/-- how a method of the queue is reached through a pointer to it -/
theorem meth_len0 (bx : Nat) (w : World) : Sem.run Try.prog (method 238 93 (.pointer (some ⟨bx, 0, none⟩)) "Len") w = Sem.run Try.prog (do let v ← loadVar 90 ⟨bx, 0, none⟩; pure (98, v)) w := by
  kernel_rfl
theorem meth_less0 (bx : Nat) (w : World) : Sem.run Try.prog (method 238 93 (.pointer (some ⟨bx, 0, none⟩)) "Less") w = Sem.run Try.prog (do let v ← loadVar 90 ⟨bx, 0, none⟩; pure (99, v)) w := by
  kernel_rfl
theorem meth_swap0 (bx : Nat) (w : World) : Sem.run Try.prog (method 238 93 (.pointer (some ⟨bx, 0, none⟩)) "Swap") w = Sem.run Try.prog (do let v ← loadVar 90 ⟨bx, 0, none⟩; pure (100, v)) w := by
  kernel_rfl
theorem meth_len (bx : Nat) (v : Value) (w : World) (h : w.cell? ⟨bx, 0, none⟩ = some v) : Sem.run Try.prog (method 238 93 (.pointer (some ⟨bx, 0, none⟩)) "Len") w = .ok (98, v) w := by
  rw [meth_len0]
  simp [go_sem, loadVar, Try.isAgg90, h]
theorem meth_less (bx : Nat) (v : Value) (w : World) (h : w.cell? ⟨bx, 0, none⟩ = some v) : Sem.run Try.prog (method 238 93 (.pointer (some ⟨bx, 0, none⟩)) "Less") w = .ok (99, v) w := by
  rw [meth_less0]
  simp [go_sem, loadVar, Try.isAgg90, h]
theorem meth_swap (bx : Nat) (v : Value) (w : World) (h : w.cell? ⟨bx, 0, none⟩ = some v) : Sem.run Try.prog (method 238 93 (.pointer (some ⟨bx, 0, none⟩)) "Swap") w = .ok (100, v) w := by
  rw [meth_swap0]
  simp [go_sem, loadVar, Try.isAgg90, h]
theorem meth_push (bx : Nat) (w : World) : Sem.run Try.prog (method 238 93 (.pointer (some ⟨bx, 0, none⟩)) "Push") w = .ok (103, .pointer (some ⟨bx, 0, none⟩)) w := by
  kernel_rfl
theorem meth_pop (bx : Nat) (w : World) : Sem.run Try.prog (method 238 93 (.pointer (some ⟨bx, 0, none⟩)) "Pop") w = .ok (102, .pointer (some ⟨bx, 0, none⟩)) w := by
  kernel_rfl
/-- which goes ahead -/
def ltJ (x y : Jb) : Prop := x.r < y.r ∨ (x.r = y.r ∧ (x.t < y.t ∨ (x.t = y.t ∧ x.k < y.k)))
instance (x y : Jb) : Decidable (ltJ x y) := by unfold ltJ; infer_instance
theorem qlen_any (a : Option Addr) (n cap : Nat) (w : World) : Calls Try.prog 98 #[.slice a n cap] w fun e w' => e = .returned (.int .i64 n) ∧ w' = w := by
  go_enter Try.func98, Try.ntmps98
  go_wp2
  go_ret
  exact ⟨rfl, rfl⟩
/-- the first that is not 0 -/
def or3 (x y z : Int) : Int := if x = 0 then (if y = 0 then z else y) else x
theorem or3_lt (x y : Jb) : or3 (cmpI x.r y.r) (cmpI x.t y.t) (cmpI x.k y.k) < 0 ↔ ltJ x y := by
  unfold or3 cmpI ltJ
  (repeat' split) <;> omega
set_option maxRecDepth 20000 in
theorem or_any (b cap : Nat) (x y z : Int) (w : World) (h0 : w.cell? ⟨b, 0, none⟩ = some (.int .i64 x)) (h1 : w.cell? ⟨b, 1, none⟩ = some (.int .i64 y)) (h2 : w.cell? ⟨b, 2, none⟩ = some (.int .i64 z)) :
    Calls Try.prog 101 #[.slice (some ⟨b, 0, none⟩) 3 cap] w fun e w' => e = .returned (.int .i64 (or3 x y z)) ∧ w' = w := by
  unfold or3
  by_cases c0 : x = 0
  · subst c0
    by_cases c1 : y = 0
    · subst c1
      by_cases c2 : z = 0
      · subst c2
        go_enter Try.func101, Try.ntmps101
        go_wp2
        go_rounds 4
        go_ret
        exact ⟨rfl, rfl⟩
      · have hz : (z != 0) = true := by simp; omega
        go_enter Try.func101, Try.ntmps101
        go_wp2
        go_rounds 4
        go_ret
        exact ⟨rfl, rfl⟩
    · have hz : (y != 0) = true := by simp; omega
      rw [if_pos rfl, if_neg c1]
      go_enter Try.func101, Try.ntmps101
      go_wp2
      go_rounds 4
      go_ret
      exact ⟨rfl, rfl⟩
  · have hz : (x != 0) = true := by simp; omega
    rw [if_neg c0]
    go_enter Try.func101, Try.ntmps101
    go_wp2
    go_rounds 4
    go_ret
    exact ⟨rfl, rfl⟩
theorem or3_dec (x y : Jb) : decide (or3 (cmpI x.r y.r) (cmpI x.t y.t) (cmpI x.k y.k) < 0) = decide (ltJ x y) := by
  simp only [or3_lt]
theorem two_boxes (w : World) (cx cy : Array Value) : w.grownBy ((w.alloc (.cells cx 72)).alloc (.cells cy 72)).drew none ∧ ((w.alloc (.cells cx 72)).alloc (.cells cy 72)).drew.heap[w.heap.size]? = some (.cells cx 72) ∧ ((w.alloc (.cells cx 72)).alloc (.cells cy 72)).drew.heap[w.heap.size + 1]? = some (.cells cy 72) := by
  refine ⟨⟨rfl, rfl, rfl, by show w.heap.size ≤ ((w.heap.push _).push _).size; simp; omega, fun k hk _ => ?_⟩, ?_, ?_⟩
  · show ((w.heap.push _).push _)[k]? = _
    rw [Array.getElem?_push, if_neg (by simp; omega), Array.getElem?_push, if_neg (by omega)]
  · exact box_alloc (box_new w cx _) _
  · have := box_new (w.alloc (.cells cx 72)) cy 72
    have e : (w.alloc (.cells cx 72)).heap.size = w.heap.size + 1 := by show (w.heap.push _).size = _; simp
    rw [e] at this; exact this
theorem grown_alloc_drew (w : World) (o : Obj) : w.grownBy (w.alloc o).drew none :=
  ⟨rfl, rfl, rfl, by show w.heap.size ≤ (w.heap.push _).size; simp, fun k hk _ => by
    show (w.heap.push _)[k]? = _
    rw [Array.getElem?_push, if_neg (by omega)]⟩
set_option maxRecDepth 20000 in
set_option maxHeartbeats 1600000 in
theorem less_any (g n cap B i j : Nat) (l : List Jb) (w : World) (h : OwnJ w B (vS g n cap) l) (hn : n = l.length) (hi : i < l.length) (hj : j < l.length) (hl : l.length ≤ 4000) :
    Calls Try.prog 99 #[vS g n cap, .int .i64 i, .int .i64 j] w fun e w' => e = .returned (.bool (decide (ltJ l[i] l[j]))) ∧ w.grownBy w' none := by
  have hx : ∀ c, c < 7 → w.cell? ⟨g, i * 7 + c, none⟩ = (EJ.enc l[i])[c]? := fun c hc => h.cell i c hi hc
  have hy : ∀ c, c < 7 → w.cell? ⟨g, j * 7 + c, none⟩ = (EJ.enc l[j])[c]? := fun c hc => h.cell j c hj hc
  have hg : g < w.heap.size := by
    obtain ⟨g', cap', e, h1, h2, _⟩ := h.pos (by omega)
    simp at e; omega
  generalize l[i] = x at *
  generalize l[j] = y at *
  obtain ⟨x0, x1, x2, x3, x4, x5, x6⟩ := x
  obtain ⟨y0, y1, y2, y3, y4, y5, y6⟩ := y
  have a0 := hx 0 (by omega); have a1 := hx 1 (by omega); have a2 := hx 2 (by omega); have a3 := hx 3 (by omega); have a4 := hx 4 (by omega); have a5 := hx 5 (by omega); have a6 := hx 6 (by omega)
  have b0 := hy 0 (by omega); have b1 := hy 1 (by omega); have b2 := hy 2 (by omega); have b3 := hy 3 (by omega); have b4 := hy 4 (by omega); have b5 := hy 5 (by omega); have b6 := hy 6 (by omega)
  simp [EJ] at a0 a1 a2 a3 a4 a5 a6 b0 b1 b2 b3 b4 b5 b6
  have i1 : (i : Int) < (n : Int) := by omega
  have j1 : (j : Int) < (n : Int) := by omega
  clear hx hy h
  have mixed := mixd
  go_enter Try.func99, Try.ntmps99
  go_wp2_with fail
  go_region_held3 (fun W => W.cell? ⟨g, i * 7, none⟩ = some (.int .i64 x0) ∧ W.cell? ⟨g, i * 7 + 1, none⟩ = some (.int .i64 x1) ∧ W.cell? ⟨g, i * 7 + 2, none⟩ = some (.int .i64 x2) ∧ W.cell? ⟨g, i * 7 + 3, none⟩ = some (.int .i64 x3) ∧ W.cell? ⟨g, i * 7 + 4, none⟩ = some (.int .i64 x4) ∧ W.cell? ⟨g, i * 7 + 5, none⟩ = some (.int .i64 x5) ∧ W.cell? ⟨g, i * 7 + 6, none⟩ = some (.int .i64 x6) ∧
    W.cell? ⟨g, j * 7, none⟩ = some (.int .i64 y0) ∧ W.cell? ⟨g, j * 7 + 1, none⟩ = some (.int .i64 y1) ∧ W.cell? ⟨g, j * 7 + 2, none⟩ = some (.int .i64 y2) ∧ W.cell? ⟨g, j * 7 + 3, none⟩ = some (.int .i64 y3) ∧ W.cell? ⟨g, j * 7 + 4, none⟩ = some (.int .i64 y4) ∧ W.cell? ⟨g, j * 7 + 5, none⟩ = some (.int .i64 y5) ∧ W.cell? ⟨g, j * 7 + 6, none⟩ = some (.int .i64 y6)) (go_keep) (fail)
  all_goals go_wp2_with fail
  · obtain ⟨HB, HX, HY⟩ := two_boxes w #[.int .i64 x0, .int .i64 x1, .int .i64 x2, .int .i64 x3, .int .i64 x4, .int .i64 x5, .int .i64 x6] #[.int .i64 y0, .int .i64 y1, .int .i64 y2, .int .i64 y3, .int .i64 y4, .int .i64 y5, .int .i64 y6]

    generalize ((w.alloc (.cells #[.int .i64 x0, .int .i64 x1, .int .i64 x2, .int .i64 x3, .int .i64 x4, .int .i64 x5, .int .i64 x6] 72)).alloc (.cells #[.int .i64 y0, .int .i64 y1, .int .i64 y2, .int .i64 y3, .int .i64 y4, .int .i64 y5, .int .i64 y6] 72)).drew = w1 at *
    have A0 := box_cell HX 0
    have A1 := box_cell HX 1
    have A6 := box_cell HX 6
    have B0 := box_cell HY 0
    have B1 := box_cell HY 1
    have B6 := box_cell HY 6
    simp at A0 A1 A6 B0 B1 B6
    have HG := hid HB
    clear HX HY HB
    generalize w.heap.size = pa at *
    generalize pa + 1 = pb at *
    clear a0 a1 a2 a3 a4 a5 a6 b0 b1 b2 b3 b4 b5 b6
    go_region_held3 (fun W => W.cell? ⟨pa, 0, none⟩ = some (.int .i64 x0) ∧ W.cell? ⟨pa, 1, none⟩ = some (.int .i64 x1) ∧ W.cell? ⟨pa, 6, none⟩ = some (.int .i64 x6) ∧ W.cell? ⟨pb, 0, none⟩ = some (.int .i64 y0) ∧ W.cell? ⟨pb, 1, none⟩ = some (.int .i64 y1) ∧ W.cell? ⟨pb, 6, none⟩ = some (.int .i64 y6)) (go_keep)
      (first | (go_at_call 36; refine (compare_any _ _ _).mono ?_; rintro e w' ⟨rfl, hw⟩; replace hw := hw.symm; subst hw) | (go_at_call 101; refine (or_any _ _ _ _ _ _ (World.cell?_alloc_at _ _ _ _ (by simp)) (World.cell?_alloc_at _ _ _ _ (by simp)) (World.cell?_alloc_at _ _ _ _ (by simp))).mono ?_; rintro e w' ⟨rfl, hw⟩; replace hw := hw.symm; subst hw))
    go_wp2_with fail
    go_ret
    refine ⟨?_, ?_⟩
    · exact congrArg (fun b => Ending.returned (.bool b)) (or3_dec ⟨x0, x1, x2, x3, x4, x5, x6⟩ ⟨y0, y1, y2, y3, y4, y5, y6⟩)
    · exact HG.out.trans (grown_alloc_drew _ _)
  · obtain ⟨HB, HY, HX⟩ := two_boxes w #[.int .i64 y0, .int .i64 y1, .int .i64 y2, .int .i64 y3, .int .i64 y4, .int .i64 y5, .int .i64 y6] #[.int .i64 x0, .int .i64 x1, .int .i64 x2, .int .i64 x3, .int .i64 x4, .int .i64 x5, .int .i64 x6]

    generalize ((w.alloc (.cells #[.int .i64 y0, .int .i64 y1, .int .i64 y2, .int .i64 y3, .int .i64 y4, .int .i64 y5, .int .i64 y6] 72)).alloc (.cells #[.int .i64 x0, .int .i64 x1, .int .i64 x2, .int .i64 x3, .int .i64 x4, .int .i64 x5, .int .i64 x6] 72)).drew = w1 at *
    have A0 := box_cell HX 0
    have A1 := box_cell HX 1
    have A6 := box_cell HX 6
    have B0 := box_cell HY 0
    have B1 := box_cell HY 1
    have B6 := box_cell HY 6
    simp at A0 A1 A6 B0 B1 B6
    have HG := hid HB
    clear HX HY HB
    generalize w.heap.size = pb at *
    generalize pb + 1 = pa at *
    clear a0 a1 a2 a3 a4 a5 a6 b0 b1 b2 b3 b4 b5 b6
    go_region_held3 (fun W => W.cell? ⟨pa, 0, none⟩ = some (.int .i64 x0) ∧ W.cell? ⟨pa, 1, none⟩ = some (.int .i64 x1) ∧ W.cell? ⟨pa, 6, none⟩ = some (.int .i64 x6) ∧ W.cell? ⟨pb, 0, none⟩ = some (.int .i64 y0) ∧ W.cell? ⟨pb, 1, none⟩ = some (.int .i64 y1) ∧ W.cell? ⟨pb, 6, none⟩ = some (.int .i64 y6)) (go_keep)
      (first | (go_at_call 36; refine (compare_any _ _ _).mono ?_; rintro e w' ⟨rfl, hw⟩; replace hw := hw.symm; subst hw) | (go_at_call 101; refine (or_any _ _ _ _ _ _ (World.cell?_alloc_at _ _ _ _ (by simp)) (World.cell?_alloc_at _ _ _ _ (by simp)) (World.cell?_alloc_at _ _ _ _ (by simp))).mono ?_; rintro e w' ⟨rfl, hw⟩; replace hw := hw.symm; subst hw))
    go_wp2_with fail
    go_ret
    refine ⟨?_, ?_⟩
    · exact congrArg (fun b => Ending.returned (.bool b)) (or3_dec ⟨x0, x1, x2, x3, x4, x5, x6⟩ ⟨y0, y1, y2, y3, y4, y5, y6⟩)
    · exact HG.out.trans (grown_alloc_drew _ _)
end PlayC
end Go.Proofs.Ytgplaoojimpbaaa
