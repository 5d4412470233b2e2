/- Several texts, one behind the other: HpA HpM HpB HpC. -/
import Derived.Test.YtpnahhpkaegeeaaPkK
/- Contracts: the queue's methods. -/
set_option linter.unusedVariables false
namespace Go.Proofs.Ytpnahhpkaegeeaa
open Go.RowKit hiding tok
open Go.Shelf Go.Sort
open SpanM SpanC PlayM
namespace PlayC
open RowG
/-- how a method of the queue is reached through a pointer to it -/
theorem meth_len0 (bx : Nat) (w : World) : Sem.run Try.prog (method 259 109 (.pointer (some ⟨bx, 0, none⟩)) "Len") w = Sem.run Try.prog (do let v ← loadVar 106 ⟨bx, 0, none⟩; pure (128, v)) w := by
  kernel_rfl
theorem meth_less0 (bx : Nat) (w : World) : Sem.run Try.prog (method 259 109 (.pointer (some ⟨bx, 0, none⟩)) "Less") w = Sem.run Try.prog (do let v ← loadVar 106 ⟨bx, 0, none⟩; pure (129, v)) w := by
  kernel_rfl
theorem meth_swap0 (bx : Nat) (w : World) : Sem.run Try.prog (method 259 109 (.pointer (some ⟨bx, 0, none⟩)) "Swap") w = Sem.run Try.prog (do let v ← loadVar 106 ⟨bx, 0, none⟩; pure (130, v)) w := by
  kernel_rfl
theorem meth_len (bx : Nat) (v : Value) (w : World) (h : w.cell? ⟨bx, 0, none⟩ = some v) : Sem.run Try.prog (method 259 109 (.pointer (some ⟨bx, 0, none⟩)) "Len") w = .ok (128, v) w := by
  rw [meth_len0]
  simp [go_sem, loadVar, Try.isAgg106, h]
theorem meth_less (bx : Nat) (v : Value) (w : World) (h : w.cell? ⟨bx, 0, none⟩ = some v) : Sem.run Try.prog (method 259 109 (.pointer (some ⟨bx, 0, none⟩)) "Less") w = .ok (129, v) w := by
  rw [meth_less0]
  simp [go_sem, loadVar, Try.isAgg106, h]
theorem meth_swap (bx : Nat) (v : Value) (w : World) (h : w.cell? ⟨bx, 0, none⟩ = some v) : Sem.run Try.prog (method 259 109 (.pointer (some ⟨bx, 0, none⟩)) "Swap") w = .ok (130, v) w := by
  rw [meth_swap0]
  simp [go_sem, loadVar, Try.isAgg106, h]
theorem meth_push (bx : Nat) (w : World) : Sem.run Try.prog (method 259 109 (.pointer (some ⟨bx, 0, none⟩)) "Push") w = .ok (133, .pointer (some ⟨bx, 0, none⟩)) w := by
  kernel_rfl
theorem meth_pop (bx : Nat) (w : World) : Sem.run Try.prog (method 259 109 (.pointer (some ⟨bx, 0, none⟩)) "Pop") w = .ok (132, .pointer (some ⟨bx, 0, none⟩)) w := by
  kernel_rfl
/-- which goes ahead -/
def ltJ (x y : Jb) : Prop := x.r < y.r ∨ (x.r = y.r ∧ (x.t < y.t ∨ (x.t = y.t ∧ x.k < y.k)))
instance (x y : Jb) : Decidable (ltJ x y) := by unfold ltJ; infer_instance
theorem qlen_any (a : Option Addr) (n cap : Nat) (w : World) : Calls Try.prog 128 #[.slice a n cap] w fun e w' => e = .returned (.int .i64 n) ∧ w' = w := by
  go_enter Try.func128, Try.ntmps128
  go_wp2
  go_ret
  exact ⟨rfl, rfl⟩
/-- the first that is not 0 -/
def or3 (x y z : Int) : Int := if x = 0 then (if y = 0 then z else y) else x
theorem or3_lt (x y : Jb) : or3 (cmpI x.r y.r) (cmpI x.t y.t) (cmpI x.k y.k) < 0 ↔ ltJ x y := by
  unfold or3 cmpI ltJ
  (repeat' split) <;> omega
set_option maxRecDepth 20000 in
theorem or_any (b cap : Nat) (x y z : Int) (w : World) (h0 : w.cell? ⟨b, 0, none⟩ = some (.int .i64 x)) (h1 : w.cell? ⟨b, 1, none⟩ = some (.int .i64 y)) (h2 : w.cell? ⟨b, 2, none⟩ = some (.int .i64 z)) :
    Calls Try.prog 131 #[.slice (some ⟨b, 0, none⟩) 3 cap] w fun e w' => e = .returned (.int .i64 (or3 x y z)) ∧ w' = w := by
  unfold or3
  by_cases c0 : x = 0
  · subst c0
    by_cases c1 : y = 0
    · subst c1
      by_cases c2 : z = 0
      · subst c2
        go_enter Try.func131, Try.ntmps131
        go_wp2
        go_rounds 4
        go_ret
        exact ⟨rfl, rfl⟩
      · have hz : (z != 0) = true := by simp; omega
        go_enter Try.func131, Try.ntmps131
        go_wp2
        go_rounds 4
        go_ret
        exact ⟨rfl, rfl⟩
    · have hz : (y != 0) = true := by simp; omega
      rw [if_pos rfl, if_neg c1]
      go_enter Try.func131, Try.ntmps131
      go_wp2
      go_rounds 4
      go_ret
      exact ⟨rfl, rfl⟩
  · have hz : (x != 0) = true := by simp; omega
    rw [if_neg c0]
    go_enter Try.func131, Try.ntmps131
    go_wp2
    go_rounds 4
    go_ret
    exact ⟨rfl, rfl⟩
theorem or3_dec (x y : Jb) : decide (or3 (cmpI x.r y.r) (cmpI x.t y.t) (cmpI x.k y.k) < 0) = decide (ltJ x y) := by
  simp only [or3_lt]
theorem two_boxes (w : World) (cx cy : Array Value) : w.grownBy ((w.alloc (.cells cx 83)).alloc (.cells cy 83)).drew none ∧ ((w.alloc (.cells cx 83)).alloc (.cells cy 83)).drew.heap[w.heap.size]? = some (.cells cx 83) ∧ ((w.alloc (.cells cx 83)).alloc (.cells cy 83)).drew.heap[w.heap.size + 1]? = some (.cells cy 83) := by
  refine ⟨⟨rfl, rfl, rfl, by show w.heap.size ≤ ((w.heap.push _).push _).size; simp; omega, fun k hk _ => ?_⟩, ?_, ?_⟩
  · show ((w.heap.push _).push _)[k]? = _
    rw [Array.getElem?_push, if_neg (by simp; omega), Array.getElem?_push, if_neg (by omega)]
  · exact box_alloc (box_new w cx _) _
  · have := box_new (w.alloc (.cells cx 83)) cy 83
    have e : (w.alloc (.cells cx 83)).heap.size = w.heap.size + 1 := by show (w.heap.push _).size = _; simp
    rw [e] at this; exact this
theorem grown_alloc_drew (w : World) (o : Obj) : w.grownBy (w.alloc o).drew none :=
  ⟨rfl, rfl, rfl, by show w.heap.size ≤ (w.heap.push _).size; simp, fun k hk _ => by
    show (w.heap.push _)[k]? = _
    rw [Array.getElem?_push, if_neg (by omega)]⟩
set_option maxRecDepth 20000 in
set_option maxHeartbeats 1600000 in
theorem less_any (g n cap B i j : Nat) (l : List Jb) (w : World) (h : OwnJ w B (vS g n cap) l) (hn : n = l.length) (hi : i < l.length) (hj : j < l.length) (hl : l.length ≤ 4000) :
    Calls Try.prog 129 #[vS g n cap, .int .i64 i, .int .i64 j] w fun e w' => e = .returned (.bool (decide (ltJ l[i] l[j]))) ∧ w.grownBy w' none := by
  have hx : ∀ c, c < 7 → w.cell? ⟨g, i * 7 + c, none⟩ = (EJ.enc l[i])[c]? := fun c hc => h.cell i c hi hc
  have hy : ∀ c, c < 7 → w.cell? ⟨g, j * 7 + c, none⟩ = (EJ.enc l[j])[c]? := fun c hc => h.cell j c hj hc
  have hg : g < w.heap.size := by
    obtain ⟨g', cap', e, h1, h2, _⟩ := h.pos (by omega)
    simp at e; omega
  generalize l[i] = x at *
  generalize l[j] = y at *
  obtain ⟨x0, x1, x2, x3, x4, x5, x6⟩ := x
  obtain ⟨y0, y1, y2, y3, y4, y5, y6⟩ := y
  have a0 := hx 0 (by omega); have a1 := hx 1 (by omega); have a2 := hx 2 (by omega); have a3 := hx 3 (by omega); have a4 := hx 4 (by omega); have a5 := hx 5 (by omega); have a6 := hx 6 (by omega)
  have b0 := hy 0 (by omega); have b1 := hy 1 (by omega); have b2 := hy 2 (by omega); have b3 := hy 3 (by omega); have b4 := hy 4 (by omega); have b5 := hy 5 (by omega); have b6 := hy 6 (by omega)
  simp [EJ] at a0 a1 a2 a3 a4 a5 a6 b0 b1 b2 b3 b4 b5 b6
  have i1 : (i : Int) < (n : Int) := by omega
  have j1 : (j : Int) < (n : Int) := by omega
  clear hx hy h
  have mixed := mixd
  go_enter Try.func129, Try.ntmps129
  go_wp2_with fail
  go_region_held3 (fun W => W.cell? ⟨g, i * 7, none⟩ = some (.int .i64 x0) ∧ W.cell? ⟨g, i * 7 + 1, none⟩ = some (.int .i64 x1) ∧ W.cell? ⟨g, i * 7 + 2, none⟩ = some (.int .i64 x2) ∧ W.cell? ⟨g, i * 7 + 3, none⟩ = some (.int .i64 x3) ∧ W.cell? ⟨g, i * 7 + 4, none⟩ = some (.int .i64 x4) ∧ W.cell? ⟨g, i * 7 + 5, none⟩ = some (.int .i64 x5) ∧ W.cell? ⟨g, i * 7 + 6, none⟩ = some (.int .i64 x6) ∧
    W.cell? ⟨g, j * 7, none⟩ = some (.int .i64 y0) ∧ W.cell? ⟨g, j * 7 + 1, none⟩ = some (.int .i64 y1) ∧ W.cell? ⟨g, j * 7 + 2, none⟩ = some (.int .i64 y2) ∧ W.cell? ⟨g, j * 7 + 3, none⟩ = some (.int .i64 y3) ∧ W.cell? ⟨g, j * 7 + 4, none⟩ = some (.int .i64 y4) ∧ W.cell? ⟨g, j * 7 + 5, none⟩ = some (.int .i64 y5) ∧ W.cell? ⟨g, j * 7 + 6, none⟩ = some (.int .i64 y6)) (go_keep) (fail)
  all_goals go_wp2_with fail
  · obtain ⟨HB, HX, HY⟩ := two_boxes w #[.int .i64 x0, .int .i64 x1, .int .i64 x2, .int .i64 x3, .int .i64 x4, .int .i64 x5, .int .i64 x6] #[.int .i64 y0, .int .i64 y1, .int .i64 y2, .int .i64 y3, .int .i64 y4, .int .i64 y5, .int .i64 y6]

    generalize ((w.alloc (.cells #[.int .i64 x0, .int .i64 x1, .int .i64 x2, .int .i64 x3, .int .i64 x4, .int .i64 x5, .int .i64 x6] 83)).alloc (.cells #[.int .i64 y0, .int .i64 y1, .int .i64 y2, .int .i64 y3, .int .i64 y4, .int .i64 y5, .int .i64 y6] 83)).drew = w1 at *
    have A0 := box_cell HX 0
    have A1 := box_cell HX 1
    have A6 := box_cell HX 6
    have B0 := box_cell HY 0
    have B1 := box_cell HY 1
    have B6 := box_cell HY 6
    simp at A0 A1 A6 B0 B1 B6
    have HG := hid HB
    clear HX HY HB
    generalize w.heap.size = pa at *
    generalize pa + 1 = pb at *
    clear a0 a1 a2 a3 a4 a5 a6 b0 b1 b2 b3 b4 b5 b6
    go_region_held3 (fun W => W.cell? ⟨pa, 0, none⟩ = some (.int .i64 x0) ∧ W.cell? ⟨pa, 1, none⟩ = some (.int .i64 x1) ∧ W.cell? ⟨pa, 6, none⟩ = some (.int .i64 x6) ∧ W.cell? ⟨pb, 0, none⟩ = some (.int .i64 y0) ∧ W.cell? ⟨pb, 1, none⟩ = some (.int .i64 y1) ∧ W.cell? ⟨pb, 6, none⟩ = some (.int .i64 y6)) (go_keep)
      (first | (go_at_call 48; refine (compare_any _ _ _).mono ?_; rintro e w' ⟨rfl, hw⟩; replace hw := hw.symm; subst hw) | (go_at_call 131; refine (or_any _ _ _ _ _ _ (World.cell?_alloc_at _ _ _ _ (by simp)) (World.cell?_alloc_at _ _ _ _ (by simp)) (World.cell?_alloc_at _ _ _ _ (by simp))).mono ?_; rintro e w' ⟨rfl, hw⟩; replace hw := hw.symm; subst hw))
    go_wp2_with fail
    go_ret
    refine ⟨?_, ?_⟩
    · exact congrArg (fun b => Ending.returned (.bool b)) (or3_dec ⟨x0, x1, x2, x3, x4, x5, x6⟩ ⟨y0, y1, y2, y3, y4, y5, y6⟩)
    · exact HG.out.trans (grown_alloc_drew _ _)
  · obtain ⟨HB, HY, HX⟩ := two_boxes w #[.int .i64 y0, .int .i64 y1, .int .i64 y2, .int .i64 y3, .int .i64 y4, .int .i64 y5, .int .i64 y6] #[.int .i64 x0, .int .i64 x1, .int .i64 x2, .int .i64 x3, .int .i64 x4, .int .i64 x5, .int .i64 x6]

    generalize ((w.alloc (.cells #[.int .i64 y0, .int .i64 y1, .int .i64 y2, .int .i64 y3, .int .i64 y4, .int .i64 y5, .int .i64 y6] 83)).alloc (.cells #[.int .i64 x0, .int .i64 x1, .int .i64 x2, .int .i64 x3, .int .i64 x4, .int .i64 x5, .int .i64 x6] 83)).drew = w1 at *
    have A0 := box_cell HX 0
    have A1 := box_cell HX 1
    have A6 := box_cell HX 6
    have B0 := box_cell HY 0
    have B1 := box_cell HY 1
    have B6 := box_cell HY 6
    simp at A0 A1 A6 B0 B1 B6
    have HG := hid HB
    clear HX HY HB
    generalize w.heap.size = pb at *
    generalize pb + 1 = pa at *
    clear a0 a1 a2 a3 a4 a5 a6 b0 b1 b2 b3 b4 b5 b6
    go_region_held3 (fun W => W.cell? ⟨pa, 0, none⟩ = some (.int .i64 x0) ∧ W.cell? ⟨pa, 1, none⟩ = some (.int .i64 x1) ∧ W.cell? ⟨pa, 6, none⟩ = some (.int .i64 x6) ∧ W.cell? ⟨pb, 0, none⟩ = some (.int .i64 y0) ∧ W.cell? ⟨pb, 1, none⟩ = some (.int .i64 y1) ∧ W.cell? ⟨pb, 6, none⟩ = some (.int .i64 y6)) (go_keep)
      (first | (go_at_call 48; refine (compare_any _ _ _).mono ?_; rintro e w' ⟨rfl, hw⟩; replace hw := hw.symm; subst hw) | (go_at_call 131; refine (or_any _ _ _ _ _ _ (World.cell?_alloc_at _ _ _ _ (by simp)) (World.cell?_alloc_at _ _ _ _ (by simp)) (World.cell?_alloc_at _ _ _ _ (by simp))).mono ?_; rintro e w' ⟨rfl, hw⟩; replace hw := hw.symm; subst hw))
    go_wp2_with fail
    go_ret
    refine ⟨?_, ?_⟩
    · exact congrArg (fun b => Ending.returned (.bool b)) (or3_dec ⟨x0, x1, x2, x3, x4, x5, x6⟩ ⟨y0, y1, y2, y3, y4, y5, y6⟩)
    · exact HG.out.trans (grown_alloc_drew _ _)
end PlayC
end Go.Proofs.Ytpnahhpkaegeeaa

/- Plain mathematics of the queue: a heap of jobs. -/
set_option linter.unusedVariables false
namespace Go.Proofs.Ytpnahhpkaegeeaa
open SpanM SpanC PlayM
namespace PlayC
/-- goes ahead, or as well -/
def leJ (x y : Jb) : Prop := ¬ ltJ y x
theorem leJ_of_lt {x y : Jb} (h : ltJ x y) : leJ x y := by unfold leJ ltJ at *; omega
theorem leJ_trans {x y z : Jb} (h : leJ x y) (h' : leJ y z) : leJ x z := by unfold leJ ltJ at *; omega
theorem leJ_refl (x : Jb) : leJ x x := by unfold leJ ltJ; omega
/-- each stands behind its parent, among the first n -/
def Heap (l : List Jb) (n : Nat) : Prop := ∀ i, 0 < i → i < n → leJ (gt l ((i - 1) / 2)) (gt l i)
/-- all but j are in their places -/
def UpI (l : List Jb) (n j : Nat) : Prop := (∀ i, 0 < i → i < n → i ≠ j → leJ (gt l ((i - 1) / 2)) (gt l i)) ∧ (∀ i, 0 < i → i < n → (i - 1) / 2 = j → 0 < j → leJ (gt l ((j - 1) / 2)) (gt l i))
theorem UpI.done {l : List Jb} {n j : Nat} (h : UpI l n j) (h' : 0 < j → j < n → leJ (gt l ((j - 1) / 2)) (gt l j)) : Heap l n := fun i h0 h1 => by
  by_cases e : i = j
  · subst e; exact h' h0 h1
  · exact h.1 i h0 h1 e
theorem UpI.start {l : List Jb} {n : Nat} (h : Heap l n) (x : Jb) (hn : n = l.length) : UpI (l ++ [x]) (n + 1) n := by
  refine ⟨fun i h0 h1 h2 => ?_, fun i h0 h1 h2 h3 => by omega⟩
  have h4 : i < l.length := by omega
  have e1 : gt (l ++ [x]) i = gt l i := by unfold gt; simp [List.getD, List.getElem?_append_left h4]
  have e2 : gt (l ++ [x]) ((i - 1) / 2) = gt l ((i - 1) / 2) := by unfold gt; simp [List.getD, List.getElem?_append_left (show (i - 1) / 2 < l.length by omega)]
  rw [e1, e2]
  exact h i h0 (by omega)
theorem UpI.step {l : List Jb} {n j : Nat} (h : UpI l n j) (hj : 0 < j) (hjn : j < n) (hn : n ≤ l.length) (hlt : ltJ (gt l j) (gt l ((j - 1) / 2))) : UpI (sw l ((j - 1) / 2) j) n ((j - 1) / 2) := by
  obtain ⟨h1, h2⟩ := h
  generalize hp : (j - 1) / 2 = p at *
  have hpj : p < j := by omega
  have g : ∀ k, gt (sw l p j) k = if k = p then gt l j else if k = j then gt l p else gt l k := fun k => gt_sw l p j k (by omega) (by omega)
  refine ⟨fun i a b c => ?_, fun i a b c d => ?_⟩
  · rw [g, g i, if_neg c]
    by_cases e1 : i = j
    · rw [if_pos (by omega), if_pos e1]; exact leJ_of_lt hlt
    · rw [if_neg e1]
      by_cases e2 : (i - 1) / 2 = p
      · rw [if_pos e2]
        have := h1 i a b e1
        rw [e2] at this
        exact leJ_trans (leJ_of_lt hlt) this
      · rw [if_neg e2]
        by_cases e3 : (i - 1) / 2 = j
        · rw [if_pos e3]; exact h2 i a b e3 hj
        · rw [if_neg e3]; exact h1 i a b e1
  · rw [g, g i, if_neg (by omega), if_neg (by omega), if_neg (by omega)]
    have t1 := h1 p d (by omega) (by omega)
    by_cases e1 : i = j
    · rw [if_pos e1]; exact t1
    · rw [if_neg e1]
      have := h1 i a b e1
      rw [c] at this
      exact leJ_trans t1 this
/-- all but the children of i are in their places -/
def DnI (l : List Jb) (n i : Nat) : Prop := (∀ c, 0 < c → c < n → (c - 1) / 2 ≠ i → leJ (gt l ((c - 1) / 2)) (gt l c)) ∧ (0 < i → ∀ c, 0 < c → c < n → (c - 1) / 2 = i → leJ (gt l ((i - 1) / 2)) (gt l c))
theorem DnI.done {l : List Jb} {n i : Nat} (h : DnI l n i) (h' : ∀ c, 0 < c → c < n → (c - 1) / 2 = i → leJ (gt l i) (gt l c)) : Heap l n := fun c h0 h1 => by
  by_cases e : (c - 1) / 2 = i
  · rw [e]; exact h' c h0 h1 e
  · exact h.1 c h0 h1 e
theorem DnI.step {l : List Jb} {n i j : Nat} (h : DnI l n i) (hj0 : 0 < j) (hj : (j - 1) / 2 = i) (hjn : j < n) (hn : n ≤ l.length) (hlt : ltJ (gt l j) (gt l i)) (hmin : ∀ c, 0 < c → c < n → (c - 1) / 2 = i → leJ (gt l j) (gt l c)) : DnI (sw l i j) n j := by
  obtain ⟨h1, h2⟩ := h
  have g : ∀ k, gt (sw l i j) k = if k = i then gt l j else if k = j then gt l i else gt l k := fun k => gt_sw l i j k (by omega) (by omega)
  refine ⟨fun c a b d => ?_, fun a c b d e => ?_⟩
  · rw [g, g c]
    by_cases e1 : (c - 1) / 2 = i
    · rw [if_pos e1, if_neg (by omega)]
      by_cases e2 : c = j
      · rw [if_pos e2]; exact leJ_of_lt hlt
      · rw [if_neg e2]; exact hmin c a b e1
    · rw [if_neg e1, if_neg d]
      by_cases e2 : c = i
      · rw [if_pos e2]
        have := h2 (by omega) j hj0 hjn hj
        rw [e2]; exact this
      · rw [if_neg e2, if_neg (by omega)]
        exact h1 c a b e1
  · rw [hj, g, g c, if_pos rfl, if_neg (by omega), if_neg (by omega)]
    have := h1 c b d (by omega)
    rw [e] at this; exact this
/-- what stands first goes ahead of all -/
theorem Heap.first {l : List Jb} {n : Nat} (h : Heap l n) : ∀ i, i < n → leJ (gt l 0) (gt l i) := by
  intro i
  induction i using Nat.strongRecOn with
  | _ i ih =>
    intro hi
    by_cases e : i = 0
    · subst e; exact leJ_refl _
    · exact leJ_trans (ih ((i - 1) / 2) (by omega) (by omega)) (h i (by omega) hi)
/-- the last put first, and taken away -/
theorem DnI.start {l : List Jb} {n : Nat} (h : Heap l (n + 1)) (hn : n + 1 = l.length) : DnI (sw l 0 n) n 0 := by
  have g : ∀ k, gt (sw l 0 n) k = if k = 0 then gt l n else if k = n then gt l 0 else gt l k := fun k => gt_sw l 0 n k (by omega) (by omega)
  refine ⟨fun c a b d => ?_, fun a => by omega⟩
  rw [g, g c, if_neg d, if_neg (by omega), if_neg (by omega), if_neg (by omega)]
  exact h c a (by omega)
theorem gt_take {l : List Jb} {n i : Nat} (h : i < n) : gt (l.take n) i = gt l i := by unfold gt; simp [List.getD, h]
theorem Heap.take {l : List Jb} {n : Nat} (h : Heap l n) : Heap (l.take n) n := fun i h0 h1 => by
  rw [gt_take h1, gt_take (by omega)]; exact h i h0 h1
theorem heap_nil : Heap [] 0 := fun i h0 h1 => by omega
/-- the last, and the others -/
theorem last_perm {l : List Jb} {n : Nat} (hn : n + 1 = l.length) : (gt l n :: l.take n).Perm l := by
  have e : l = l.take n ++ [gt l n] := by
    conv => lhs; rw [← List.take_append_drop n l]
    congr 1
    rw [List.drop_eq_getElem_cons (by omega), List.drop_of_length_le (by omega)]
    unfold gt
    rw [getD_at l n (by omega)]
  conv => rhs; rw [e]
  exact (List.perm_append_singleton _ _).symm
end PlayC
end Go.Proofs.Ytpnahhpkaegeeaa

/- Contracts: container/heap's up and down over the queue. -/
set_option linter.unusedVariables false
namespace Go.Proofs.Ytpnahhpkaegeeaa
open Go.RowKit hiding tok
open Go.Shelf Go.Sort
open SpanM SpanC PlayM
namespace PlayC
open RowG
abbrev vQ (bx : Nat) : Value := .iface 109 (.pointer (some ⟨bx, 0, none⟩))
abbrev oQ (v : Value) : Obj := .cells #[v] 106
theorem box_of_own {w w' : World} {bx B g n cap : Nat} {l : List Jb} (hb : w.heap[bx]? = some (oQ (vS g n cap))) (h : OwnJ w B (vS g n cap) l) (hg : w.grownBy w' (some g)) : w'.heap[bx]? = some (oQ (vS g n cap)) :=
  box_grown hb hg (own_ne h hb (by decide))
theorem grown_none {w w' : World} {r : Option Nat} (h : w.grownBy w' none) : w.grownBy w' r := ⟨h.os, h.tape, h.output, h.size, fun k hk _ => h.block k hk (by simp)⟩
theorem own_none {w w' : World} {B g n cap : Nat} {l : List Jb} (h : OwnJ w B (vS g n cap) l) (hg : w.grownBy w' none) : OwnJ w' B (vS g n cap) l := h.kept hg (.inr (by simp [Value.ownBlock]))
theorem ent_less : ∀ (args : Array Value) (w : World), (callFunc 129 args).run Try.prog w = .ok (.enter 129 args) w := enters_of Try.func129 (by kernel_rfl) rfl
theorem less_gt (g n cap B i j : Nat) (l : List Jb) (w : World) (h : OwnJ w B (vS g n cap) l) (hn : n = l.length) (hi : i < l.length) (hj : j < l.length) (hl : l.length ≤ 4000) :
    Calls Try.prog 129 #[vS g n cap, .int .i64 i, .int .i64 j] w fun e w' => e = .returned (.bool (decide (ltJ (gt l i) (gt l j)))) ∧ w.grownBy w' none := by
  have := less_any g n cap B i j l w h hn hi hj hl
  unfold gt
  rw [getD_at l i hi, getD_at l j hj]
  exact this
set_option maxRecDepth 20000 in
set_option maxHeartbeats 1600000 in
theorem up_any (bx g n cap B j : Nat) (l : List Jb) (w : World) (hbox : w.heap[bx]? = some (oQ (vS g n cap))) (h : OwnJ w B (vS g n cap) l) (hn : n = l.length) (hj : j < n) (hl : l.length ≤ 4000) (hu : UpI l n j) :
    Calls Try.prog 90 #[vQ bx, .int .i64 j] w fun e w' => e = .returned (.tuple #[]) ∧ ∃ l', OwnJ w' B (vS g n cap) l' ∧ w.grownBy w' (some g) ∧ l'.Perm l ∧ Heap l' n := by
  have HX := hid hbox
  have HO := hid h
  have HN := hid hn
  have HU := hid hu
  have hnl : n ≤ 4000 := by omega
  clear hbox h hn hl hu
  go_enter Try.func90, Try.ntmps90
  go_wp2_with fail
  go_loopw [1] (fun vj wr => ∃ (j : Nat) (lj : List Jb), j < n ∧ vj = .int .i64 j ∧ OwnJ wr B (vS g n cap) lj ∧ w.grownBy wr (some g) ∧ lj.Perm l ∧ UpI lj n j) (fun vj _ => (intOf vj).toNat)
  case atStart => exact ⟨j, l, hj, rfl, HO.out, grown_refl _ _, .refl _, HU.out⟩
  case round =>
    obtain ⟨j, lj, hj, rfl, ho, hg, hp, hu⟩ := hrel
    have HO1 := hid ho
    have HG1 := hid hg
    have HP1 := hid hp
    have HU1 := hid hu
    have hlj := hp.length_eq
    have HLJ := hid (show lj.length = n by rw [hlj, HN.out])
    have hc := box_cell (box_of_own HX.out HO.out hg) 0
    simp at hc
    have hm1 := meth_less bx (vS g n cap) wr hc
    clear ho hg hp hu hlj
    by_cases h0 : j = 0
    · subst h0
      have hz : Int.tdiv (-1) 2 = 0 := by decide
      go_wp2_with fail
      go_end0
      exact ⟨rfl, lj, HO1.out, HG1.out, HP1.out, HU1.out.done (by omega)⟩
    · obtain ⟨q, hq⟩ : ∃ q, q = (j - 1) / 2 := ⟨_, rfl⟩
      have eq1 : ((j : Int) - 1).tdiv 2 = (q : Int) := by rw [Int.tdiv_eq_ediv_of_nonneg (by omega)]; omega
      have hjq : ((q : Int) == (j : Int)) = false := by simp; omega
      have hL := hid (less_gt g n cap B j q lj wr HO1.out HLJ.out.symm (by have := HLJ.out; omega) (by have := HLJ.out; omega) (by have := HLJ.out; omega))
      have HQ := hid hq
      have hqj : q < j := by omega
      clear hq
      by_cases hlt : ltJ (gt lj j) (gt lj q)
      · rw [decide_eq_true hlt] at hL
        have HL := hid hlt
        clear hlt
        go_wp2_with (first | (go_at_call 129; refine hL.out.mono ?_; rintro e w1 ⟨rfl, hg1⟩; have HO2 := hid (own_none HO1.out hg1); have HG2 := hid (HG1.out.trans (grown_none hg1)); have hc2 := box_cell (box_of_own HX.out HO.out HG2.out) 0; simp at hc2; have hm2 := meth_swap bx (vS g n cap) w1 hc2; have hS := hid (Swap_any g n cap B q j lj w1 HO2.out HLJ.out.symm (by have := HLJ.out; omega) (by have := HLJ.out; omega) (by have := HLJ.out; omega)); clear hg1) | (go_at_call 130; refine hS.out.mono ?_; rintro e w2 ⟨rfl, ho2, hg2⟩; have HO3 := hid ho2; have HG3 := hid hg2; clear ho2 hg2))
        go_roundw
        case rel =>
          have h5 := HLJ.out
          refine ⟨q, sw lj q j, by omega, by first | rfl | go_num, HO3.out, HG2.out.trans HG3.out, (sw_perm lj q j (by omega) (by omega)).trans HP1.out, ?_⟩
          have h6 := HU1.out.step (by omega) hj (by omega) (by rw [← HQ.out]; exact HL.out)
          rw [← HQ.out] at h6
          exact h6
        case measure => simp [intOf]; omega
      · rw [decide_eq_false hlt] at hL
        have HL := hid hlt
        clear hlt
        go_wp2_with (first | (go_at_call 129; refine hL.out.mono ?_; rintro e w1 ⟨rfl, hg1⟩; have HO2 := hid (own_none HO1.out hg1); have HG2 := hid (HG1.out.trans (grown_none hg1)); clear hg1))
        go_end0
        refine ⟨rfl, lj, HO2.out, HG2.out, HP1.out, HU1.out.done fun _ _ => ?_⟩
        have h5 := HLJ.out
        rw [← HQ.out]
        unfold leJ
        exact HL.out
end PlayC
end Go.Proofs.Ytpnahhpkaegeeaa

/- Contracts: container/heap's down over the queue (written by gen_hp.py). -/
set_option linter.unusedVariables false
namespace Go.Proofs.Ytpnahhpkaegeeaa
open Go.RowKit hiding tok
open Go.Shelf Go.Sort
open SpanM SpanC PlayM
namespace PlayC
open RowG
set_option maxRecDepth 20000 in
set_option maxHeartbeats 3200000 in
theorem down_any (bx g n cap B m : Nat) (l : List Jb) (w : World) (hbox : w.heap[bx]? = some (oQ (vS g n cap))) (h : OwnJ w B (vS g n cap) l) (hn : n = l.length) (hm : m ≤ n) (hl : l.length ≤ 4000) (hu : DnI l m 0) :
    Calls Try.prog 91 #[vQ bx, .int .i64 0, .int .i64 m] w fun e w' => (∃ b, e = .returned (.bool b)) ∧ ∃ l', OwnJ w' B (vS g n cap) l' ∧ w.grownBy w' (some g) ∧ l'.Perm l ∧ (∀ k, m ≤ k → gt l' k = gt l k) ∧ Heap l' m := by
  have HX := hid hbox
  have HO := hid h
  have HN := hid hn
  have HU := hid hu
  have hnl : n ≤ 4000 := by omega
  clear hbox h hn hl hu
  go_enter Try.func91, Try.ntmps91
  go_wp2_with fail
  go_loopw [7] (fun vi wr => ∃ (i : Nat) (li : List Jb), (i = 0 ∨ i < m) ∧ vi = .int .i64 i ∧ OwnJ wr B (vS g n cap) li ∧ w.grownBy wr (some g) ∧ li.Perm l ∧ (∀ k, m ≤ k → gt li k = gt l k) ∧ DnI li m i) (fun vi _ => m - (intOf vi).toNat)
  case atStart => exact ⟨0, l, .inl rfl, rfl, HO.out, grown_refl _ _, .refl _, fun _ _ => rfl, HU.out⟩
  case round =>
    obtain ⟨i, li, hi, rfl, ho, hg, hp, hk, hu⟩ := hrel
    have HO1 := hid ho
    have HG1 := hid hg
    have HP1 := hid hp
    have HK1 := hid hk
    have HU1 := hid hu
    have hli := hp.length_eq
    have HLI := hid (show li.length = n by rw [hli, HN.out])
    have hc := box_cell (box_of_own HX.out HO.out hg) 0
    simp at hc
    have hm1 := meth_less bx (vS g n cap) wr hc
    have HI := hid hi
    have hi2 : i ≤ 4000 := by omega
    clear ho hg hp hk hu hli
    obtain ⟨p, hpe⟩ : ∃ p, p = 2 * i + 1 := ⟨_, rfl⟩
    have ep : 2 * (i : Int) + 1 = (p : Int) := by omega
    have HPE := hid hpe
    have hpi : i < p := by omega
    have hp3 : p ≤ 8001 := by omega
    obtain ⟨s, hse⟩ : ∃ s, s = p + 1 := ⟨_, rfl⟩
    have es : (p : Int) + 1 = (s : Int) := by omega
    have HSE := hid hse
    have hps : p < s := by omega
    have hs3 : s ≤ 8002 := by omega
    clear hi hpe hse
    have HCH := hid (fun c (h0 : 0 < c) (h1 : (c - 1) / 2 = i) => (show c = p ∨ c = s by have := HPE.out; have := HSE.out; omega))
    by_cases hpm : p < m
    · have hpm2 : ¬ (m : Int) ≤ (p : Int) := by omega
      by_cases hp2 : s < m
      · have hp4 : (s : Int) < (m : Int) := by omega
        have hL1 := hid (less_gt g n cap B s p li wr HO1.out HLI.out.symm (by have := HLI.out; omega) (by have := HLI.out; omega) (by have := HLI.out; omega))
        by_cases hlt1 : ltJ (gt li s) (gt li p)
        · have HMIN := hid (fun c (h0 : 0 < c) (h1 : c < m) (h2 : (c - 1) / 2 = i) => (show leJ (gt li s) (gt li c) by
            rcases HCH.out c h0 h2 with e | e
            · rw [e]; exact leJ_of_lt hlt1
            · rw [e]; exact leJ_refl _))
          rw [decide_eq_true hlt1] at hL1
          clear hlt1
          by_cases hlt : ltJ (gt li s) (gt li i)
          · have HL := hid hlt
            clear hlt
            go_wp2_with (first | (go_at_call 129; (with_reducible refine hL2.out.mono ?_); rintro e w2 ⟨rfl, hg2⟩; have HO3 := hid (own_none HO2.out hg2); have HG3 := hid (HG2.out.trans (grown_none hg2)); have hc3 := box_cell (box_of_own HX.out HO.out HG3.out) 0; simp at hc3; have hm3 := meth_swap bx (vS g n cap) w2 hc3; have hS := hid (Swap_any g n cap B i s li w2 HO3.out HLI.out.symm (by have := HLI.out; omega) (by have := HLI.out; omega) (by have := HLI.out; omega)); clear hg2) | (go_at_call 129; (with_reducible refine hL1.out.mono ?_); rintro e w1 ⟨rfl, hg1⟩; have HO2 := hid (own_none HO1.out hg1); have HG2 := hid (HG1.out.trans (grown_none hg1)); have hc2 := box_cell (box_of_own HX.out HO.out HG2.out) 0; simp at hc2; have hm2 := meth_less bx (vS g n cap) w1 hc2; have hL2 := hid (less_gt g n cap B s i li w1 HO2.out HLI.out.symm (by have := HLI.out; omega) (by have := HLI.out; omega) (by have := HLI.out; omega)); rw [decide_eq_true HL.out] at hL2; clear hg1) | (go_at_call 130; refine hS.out.mono ?_; rintro e w3 ⟨rfl, ho4, hg4⟩; have HO4 := hid ho4; have HG4 := hid hg4; clear ho4 hg4))
            go_roundw
            case rel =>
              have h5 := HLI.out
              have h6 := HPE.out
              have h7 := HSE.out
              refine ⟨s, sw li i s, by omega, by first | rfl | go_num, HO4.out, HG3.out.trans HG4.out, (sw_perm li i s (by omega) (by omega)).trans HP1.out, fun k hk => ?_, ?_⟩
              · rw [gt_sw li i s k (by omega) (by omega), if_neg (by omega), if_neg (by omega)]; exact HK1.out k hk
              · exact HU1.out.step (by omega) (by omega) (by omega) (by omega) HL.out HMIN.out
            case measure => have h6 := HPE.out; have h7 := HSE.out; simp [intOf]; omega
          · have HL := hid hlt
            clear hlt
            go_wp2_with (first | (go_at_call 129; (with_reducible refine hL2.out.mono ?_); rintro e w2 ⟨rfl, hg2⟩; have HO3 := hid (own_none HO2.out hg2); have HG3 := hid (HG2.out.trans (grown_none hg2)); clear hg2) | (go_at_call 129; (with_reducible refine hL1.out.mono ?_); rintro e w1 ⟨rfl, hg1⟩; have HO2 := hid (own_none HO1.out hg1); have HG2 := hid (HG1.out.trans (grown_none hg1)); have hc2 := box_cell (box_of_own HX.out HO.out HG2.out) 0; simp at hc2; have hm2 := meth_less bx (vS g n cap) w1 hc2; have hL2 := hid (less_gt g n cap B s i li w1 HO2.out HLI.out.symm (by have := HLI.out; omega) (by have := HLI.out; omega) (by have := HLI.out; omega)); rw [decide_eq_false HL.out] at hL2; clear hg1))
            go_ret
            exact ⟨⟨_, rfl⟩, li, HO3.out, HG3.out, HP1.out, HK1.out, HU1.out.done fun c h0 h1 h2 => leJ_trans HL.out (HMIN.out c h0 h1 h2)⟩
        · have HMIN := hid (fun c (h0 : 0 < c) (h1 : c < m) (h2 : (c - 1) / 2 = i) => (show leJ (gt li p) (gt li c) by
            rcases HCH.out c h0 h2 with e | e
            · rw [e]; exact leJ_refl _
            · rw [e]; exact hlt1))
          rw [decide_eq_false hlt1] at hL1
          clear hlt1
          by_cases hlt : ltJ (gt li p) (gt li i)
          · have HL := hid hlt
            clear hlt
            go_wp2_with (first | (go_at_call 129; (with_reducible refine hL2.out.mono ?_); rintro e w2 ⟨rfl, hg2⟩; have HO3 := hid (own_none HO2.out hg2); have HG3 := hid (HG2.out.trans (grown_none hg2)); have hc3 := box_cell (box_of_own HX.out HO.out HG3.out) 0; simp at hc3; have hm3 := meth_swap bx (vS g n cap) w2 hc3; have hS := hid (Swap_any g n cap B i p li w2 HO3.out HLI.out.symm (by have := HLI.out; omega) (by have := HLI.out; omega) (by have := HLI.out; omega)); clear hg2) | (go_at_call 129; (with_reducible refine hL1.out.mono ?_); rintro e w1 ⟨rfl, hg1⟩; have HO2 := hid (own_none HO1.out hg1); have HG2 := hid (HG1.out.trans (grown_none hg1)); have hc2 := box_cell (box_of_own HX.out HO.out HG2.out) 0; simp at hc2; have hm2 := meth_less bx (vS g n cap) w1 hc2; have hL2 := hid (less_gt g n cap B p i li w1 HO2.out HLI.out.symm (by have := HLI.out; omega) (by have := HLI.out; omega) (by have := HLI.out; omega)); rw [decide_eq_true HL.out] at hL2; clear hg1) | (go_at_call 130; refine hS.out.mono ?_; rintro e w3 ⟨rfl, ho4, hg4⟩; have HO4 := hid ho4; have HG4 := hid hg4; clear ho4 hg4))
            go_roundw
            case rel =>
              have h5 := HLI.out
              have h6 := HPE.out
              have h7 := HSE.out
              refine ⟨p, sw li i p, by omega, by first | rfl | go_num, HO4.out, HG3.out.trans HG4.out, (sw_perm li i p (by omega) (by omega)).trans HP1.out, fun k hk => ?_, ?_⟩
              · rw [gt_sw li i p k (by omega) (by omega), if_neg (by omega), if_neg (by omega)]; exact HK1.out k hk
              · exact HU1.out.step (by omega) (by omega) (by omega) (by omega) HL.out HMIN.out
            case measure => have h6 := HPE.out; have h7 := HSE.out; simp [intOf]; omega
          · have HL := hid hlt
            clear hlt
            go_wp2_with (first | (go_at_call 129; (with_reducible refine hL2.out.mono ?_); rintro e w2 ⟨rfl, hg2⟩; have HO3 := hid (own_none HO2.out hg2); have HG3 := hid (HG2.out.trans (grown_none hg2)); clear hg2) | (go_at_call 129; (with_reducible refine hL1.out.mono ?_); rintro e w1 ⟨rfl, hg1⟩; have HO2 := hid (own_none HO1.out hg1); have HG2 := hid (HG1.out.trans (grown_none hg1)); have hc2 := box_cell (box_of_own HX.out HO.out HG2.out) 0; simp at hc2; have hm2 := meth_less bx (vS g n cap) w1 hc2; have hL2 := hid (less_gt g n cap B p i li w1 HO2.out HLI.out.symm (by have := HLI.out; omega) (by have := HLI.out; omega) (by have := HLI.out; omega)); rw [decide_eq_false HL.out] at hL2; clear hg1))
            go_ret
            exact ⟨⟨_, rfl⟩, li, HO3.out, HG3.out, HP1.out, HK1.out, HU1.out.done fun c h0 h1 h2 => leJ_trans HL.out (HMIN.out c h0 h1 h2)⟩
      · have hp4 : ¬ (s : Int) < (m : Int) := by omega
        have HMIN := hid (fun c (h0 : 0 < c) (h1 : c < m) (h2 : (c - 1) / 2 = i) => (show leJ (gt li p) (gt li c) by
          rcases HCH.out c h0 h2 with e | e
          · rw [e]; exact leJ_refl _
          · omega))
        have hL2 := hid (less_gt g n cap B p i li wr HO1.out HLI.out.symm (by have := HLI.out; omega) (by have := HLI.out; omega) (by have := HLI.out; omega))
        by_cases hlt : ltJ (gt li p) (gt li i)
        · rw [decide_eq_true hlt] at hL2
          have HL := hid hlt
          clear hlt
          go_wp2_with (first | (go_at_call 129; (with_reducible refine hL2.out.mono ?_); rintro e w2 ⟨rfl, hg2⟩; have HO3 := hid (own_none HO1.out hg2); have HG3 := hid (HG1.out.trans (grown_none hg2)); have hc3 := box_cell (box_of_own HX.out HO.out HG3.out) 0; simp at hc3; have hm3 := meth_swap bx (vS g n cap) w2 hc3; have hS := hid (Swap_any g n cap B i p li w2 HO3.out HLI.out.symm (by have := HLI.out; omega) (by have := HLI.out; omega) (by have := HLI.out; omega)); clear hg2) | (go_at_call 130; refine hS.out.mono ?_; rintro e w3 ⟨rfl, ho4, hg4⟩; have HO4 := hid ho4; have HG4 := hid hg4; clear ho4 hg4))
          go_roundw
          case rel =>
            have h5 := HLI.out
            have h6 := HPE.out
            have h7 := HSE.out
            refine ⟨p, sw li i p, by omega, by first | rfl | go_num, HO4.out, HG3.out.trans HG4.out, (sw_perm li i p (by omega) (by omega)).trans HP1.out, fun k hk => ?_, ?_⟩
            · rw [gt_sw li i p k (by omega) (by omega), if_neg (by omega), if_neg (by omega)]; exact HK1.out k hk
            · exact HU1.out.step (by omega) (by omega) (by omega) (by omega) HL.out HMIN.out
          case measure => have h6 := HPE.out; have h7 := HSE.out; simp [intOf]; omega
        · rw [decide_eq_false hlt] at hL2
          have HL := hid hlt
          clear hlt
          go_wp2_with (first | (go_at_call 129; (with_reducible refine hL2.out.mono ?_); rintro e w2 ⟨rfl, hg2⟩; have HO3 := hid (own_none HO1.out hg2); have HG3 := hid (HG1.out.trans (grown_none hg2)); clear hg2))
          go_ret
          exact ⟨⟨_, rfl⟩, li, HO3.out, HG3.out, HP1.out, HK1.out, HU1.out.done fun c h0 h1 h2 => leJ_trans HL.out (HMIN.out c h0 h1 h2)⟩
    · have hpm2 : (m : Int) ≤ (p : Int) := by omega
      go_wp2_with fail
      go_ret
      exact ⟨⟨_, rfl⟩, li, HO1.out, HG1.out, HP1.out, HK1.out, HU1.out.done fun c h0 h1 h2 => by have := HCH.out c h0 h2; omega⟩
end PlayC
end Go.Proofs.Ytpnahhpkaegeeaa
