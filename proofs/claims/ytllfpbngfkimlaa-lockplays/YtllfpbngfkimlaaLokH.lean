/- The document's own answers about locks: what PlayedWorks keeps in memory. -/
import Derived.Test.YtllfpbngfkimlaaLokA
import Derived.Test.YtllfpbngfkimlaaRowG
import Derived.Test.YtllfpbngfkimlaaLockM5
set_option linter.unusedVariables false
namespace Go.Proofs.Ytllfpbngfkimlaa
open Go.RowKit
open Go.Shelf Go.Sort
open SpanM SpanC IntsC
open RowsO hiding Wk
namespace LockC
open LockM
open NumC (Row)
abbrev Ur := Option Addr × Nat × Nat
def EU : RowG.Enc Ur where
  enc := fun x => [.slice x.1 x.2.1 x.2.2]
  k := 1
  hk := fun _ => rfl
  h1 := fun x u hu => by
    simp only [List.mem_cons, List.not_mem_nil, or_false] at hu
    subst hu; rfl
theorem infoU : (Try.prog.info? 23).map (fun i => (i.zero, i.size, i.bytes)) = some (some (.slice none 0 0), 1, 24) := by kernel_rfl
theorem orow_ne_box {w : World} {B e size n bx T : Nat} {v : Value} {xs : List Value} {cs : Array Value} (h : w.ownsRow B e size v n xs) (hb : w.heap[bx]? = some (.cells cs T)) (hT : T ≠ e) : v.ownBlock ≠ some bx := by
  intro q
  rcases h.2 with ⟨rfl, _⟩ | ⟨g', cap', cur, rfl, _, hg, _⟩
  · simp [Value.ownBlock] at q
  · simp only [Value.ownBlock, Option.some.injEq] at q
    subst q
    rw [hg] at hb
    injection hb with hb
    injection hb with _ h2 _
    exact hT h2.symm
theorem orow_heap {W W' : World} {B e size n : Nat} {v : Value} {xs : List Value} (h : W.ownsRow B e size v n xs) (hs : ∀ q, v.ownBlock = some q → W'.heap[q]? = W.heap[q]?) : W'.ownsRow B e size v n xs := by
  refine ⟨h.1, ?_⟩
  rcases h.2 with h0 | ⟨g', cap', cur, h1, h2, h3, h4⟩
  · exact .inl h0
  · exact .inr ⟨g', cap', cur, h1, h2, by rw [hs g' (by rw [h1]; rfl)]; exact h3, h4⟩
/-- the rows of units of the first works: the row of these rows, and each -/
structure UT (w : World) (D : Nat) (v : Value) (l : List LockM.Wk) (us : List Ur) : Prop where
  row : RowG.Own EU 23 w D v us
  each : ∀ i (h : i < us.length), OwnI w D (.slice us[i].1 us[i].2.1 us[i].2.2) (unitsI (acts l i))
theorem UT.nil (w : World) (D : Nat) (l : List LockM.Wk) : UT w D (.slice none 0 0) l [] := ⟨RowG.Own.nil _ _ _ _, fun i h => by simp at h⟩
theorem UT.same {w w' : World} {D : Nat} {v : Value} {l : List LockM.Wk} {us : List Ur} (h : UT w D v l us) (hs : ∀ k, D ≤ k → k < w.heap.size → w'.heap[k]? = w.heap[k]?) : UT w' D v l us :=
  ⟨orow_heap h.row fun q e => by have := h.row.lt q e; exact hs q this.1 this.2, fun i hi => orow_heap (h.each i hi) fun q e => by have := World.ownsRow.lt (h.each i hi) q e; exact hs q this.1 this.2⟩
theorem UT.below {w w' : World} {D : Nat} {v : Value} {l : List LockM.Wk} {us : List Ur} (h : UT w D v l us) (hb : Below w.heap.size w w') : UT w' D v l us := h.same fun k _ hk => hb.block k hk
theorem UT.put {w w8 : World} {D : Nat} {v v8 : Value} {l : List LockM.Wk} {us : List Ur} {x : Ur} (h : UT w D v l us) (hn : OwnI w D (.slice x.1 x.2.1 x.2.2) (unitsI (acts l us.length))) (ho : RowG.Own EU 23 w8 D v8 (us ++ [x])) (hg : w.grownBy w8 v.ownBlock) : UT w8 D v8 l (us ++ [x]) := by
  have hk : ∀ (y : Value) (m : List Int), OwnI w D y m → OwnI w8 D y m := by
    intro y m hy
    refine World.ownsRow.kept hy hg ?_
    rcases h.row.2 with ⟨e, _⟩ | ⟨g', cap', cur, e, _, hb, _⟩
    · rw [e]; cases y.ownBlock <;> simp [Value.ownBlock]
    · right
      rw [e]
      exact orow_ne_box hy hb (by decide)
  refine ⟨ho, fun i hi => ?_⟩
  rw [List.length_append, List.length_singleton] at hi
  rcases Nat.lt_or_ge i us.length with q | q
  · rw [List.getElem_append_left q]
    exact hk _ _ (h.each i q)
  · have : i = us.length := by omega
    subst this
    rw [List.getElem_append_right (Nat.le_refl _)]
    simp only [Nat.sub_self, List.getElem_cons_zero]
    exact hk _ _ hn
/-- the row of a work's units -/
theorem UT.at {w : World} {D : Nat} {v : Value} {l : List LockM.Wk} {us : List Ur} (h : UT w D v l us) (i : Nat) (hi : i < us.length) : ∃ gu cap a c, v = .slice (some ⟨gu, 0, none⟩) us.length cap ∧ w.cell? ⟨gu, i, none⟩ = some (.slice a (unitsI (acts l i)).length c) ∧ Row w a (unitsI (acts l i)) := by
  obtain ⟨g, cap, e, _⟩ := h.row.pos (by omega)
  have hc := (show RowG.Own EU 23 w D (.slice (some ⟨g, 0, none⟩) us.length cap) us from e ▸ h.row).cell i 0 hi (by decide)
  obtain ⟨a, c, e2, hr, _⟩ := OwnI.row (h.each i hi)
  simp only [Value.slice.injEq] at e2
  obtain ⟨e3, e4, e5⟩ := e2
  refine ⟨g, cap, a, c, e, ?_, hr⟩
  have e6 : i * EU.k + 0 = i := by show i * 1 + 0 = i; omega
  rw [e6] at hc
  rw [hc]
  show some (Value.slice us[i].1 us[i].2.1 us[i].2.2) = _
  rw [e3, e4, e5]
/-- what PlayedWorks has in memory, behind its first loop (which ended in the world wu) -/
structure PM (w wu W : World) (n : Nat) (vr : Value) (rl el cl : List Int) : Prop where
  bel : Below w.heap.size w W
  res : W.heap[w.heap.size]? = some (.cells #[.slice none 0 0, .slice none 0 0, .int .i64 0] 25)
  tb : W.heap[w.heap.size + 2]? = some (.cells #[vr, vS (w.heap.size + 1) n n, .int .i64 0] 25)
  e : OwnI W (w.heap.size + 1) (vS (w.heap.size + 1) n n) el
  c : OwnI W (w.heap.size + 1) (vS (w.heap.size + 3) n n) cl
  le : n = el.length
  lc : n = cl.length
  r : OwnI W wu.heap.size vr rl
  fr : ∀ k, w.heap.size + 4 ≤ k → k < wu.heap.size → W.heap[k]? = wu.heap[k]?
  s1 : w.heap.size + 4 ≤ wu.heap.size
  s2 : wu.heap.size ≤ W.heap.size
theorem orow_same {W W' : World} {B e size g n cap : Nat} {m : Nat} {xs : List Value} (h : W.ownsRow B e size (vS g n cap) m xs) (hg : W'.heap[g]? = W.heap[g]?) : W'.ownsRow B e size (vS g n cap) m xs :=
  orow_heap h fun q e => by
    simp only [Value.ownBlock, Option.some.injEq] at e
    subst e; exact hg
theorem PM.start {w w3 wu : World} {n : Nat} (hn : n ≤ 100000) (h0 : Below w.heap.size w w3) (hs : w3.heap.size = w.heap.size + 4)
    (r0 : w3.heap[w.heap.size]? = some (.cells #[.slice none 0 0, .slice none 0 0, .int .i64 0] 25))
    (r1 : w3.heap[w.heap.size + 1]? = some (.cells (madeCells #[.int .i64 0] n) 3))
    (r2 : w3.heap[w.heap.size + 2]? = some (.cells #[.slice none 0 0, vS (w.heap.size + 1) n n, .int .i64 0] 25))
    (r3 : w3.heap[w.heap.size + 3]? = some (.cells (madeCells #[.int .i64 0] n) 3))
    (hb : Below w3.heap.size w3 wu) : PM w wu wu n (.slice none 0 0) [] (List.replicate n 0) (List.replicate n 0) := by
  have made : ∀ (q m : Nat), wu.heap[q]? = some (.cells (madeCells #[.int .i64 0] m) 3) → w.heap.size < q → m ≤ 100000 → OwnI wu (w.heap.size + 1) (vS q m m) (List.replicate m 0) := by
    intro q m hq hlt hm
    refine OwnI.made ⟨by simp [size_madeCells], .inr ⟨q, m, _, rfl, by omega, hq, Nat.le_refl _, by unfold maxLen; omega, by simp [size_madeCells], ?_⟩⟩
    rw [List.take_of_length_le (by simp [size_madeCells])]
  have sz := hb.size
  exact ⟨h0.trans (hb.mono (by omega)), (hb.block _ (by omega)).trans r0, (hb.block _ (by omega)).trans r2, made _ n ((hb.block _ (by omega)).trans r1) (by omega) hn, made _ n ((hb.block _ (by omega)).trans r3) (by omega) hn, by simp, by simp, World.ownsRow_nil _ _ _ _, fun k _ _ => rfl, by omega, Nat.le_refl _⟩
variable {w wu W W' : World} {n : Nat} {vr : Value} {rl el cl : List Int}
theorem PM.below (h : PM w wu W n vr rl el cl) (hb : Below W.heap.size W W') : PM w wu W' n vr rl el cl := by
  have s1 := h.s1
  have s2 := h.s2
  have sz := hb.size
  refine ⟨h.bel.trans (hb.mono (by omega)), (hb.block _ (by omega)).trans h.res, (hb.block _ (by omega)).trans h.tb, orow_same h.e (hb.block _ (by omega)), orow_same h.c (hb.block _ (by omega)), h.le, h.lc, orow_heap h.r fun q e => hb.block _ (World.ownsRow.lt h.r q e).2, fun k k1 k2 => (hb.block _ (by omega)).trans (h.fr k k1 k2), h.s1, by omega⟩
theorem PM.setE (h : PM w wu W n vr rl el cl) (i : Nat) (v : Int) : PM w wu (W.setCell ⟨w.heap.size + 1, i, none⟩ (.int .i64 v)) n vr rl (el.set i v) cl := by
  have s1 := h.s1
  have s2 := h.s2
  have o : ∀ k, k ≠ w.heap.size + 1 → (W.setCell ⟨w.heap.size + 1, i, none⟩ (.int .i64 v)).heap[k]? = W.heap[k]? := fun k hk => heap_setCell_other _ _ _ _ hk
  refine ⟨h.bel.setCell (p := ⟨w.heap.size + 1, i, none⟩) (by show w.heap.size ≤ w.heap.size + 1; omega) _, (o _ (by omega)).trans h.res, (o _ (by omega)).trans h.tb, (OwnI.set h.e h.le i v).1, orow_same h.c (o _ (by omega)), by rw [List.length_set]; exact h.le, h.lc, orow_heap h.r fun q e => o _ (by have := (World.ownsRow.lt h.r q e).1; omega), fun k k1 k2 => (o _ (by omega)).trans (h.fr k k1 k2), h.s1, by rw [World.size_setCell]; exact h.s2⟩
theorem PM.setC (h : PM w wu W n vr rl el cl) (i : Nat) (v : Int) : PM w wu (W.setCell ⟨w.heap.size + 3, i, none⟩ (.int .i64 v)) n vr rl el (cl.set i v) := by
  have s1 := h.s1
  have s2 := h.s2
  have o : ∀ k, k ≠ w.heap.size + 3 → (W.setCell ⟨w.heap.size + 3, i, none⟩ (.int .i64 v)).heap[k]? = W.heap[k]? := fun k hk => heap_setCell_other _ _ _ _ hk
  refine ⟨h.bel.setCell (p := ⟨w.heap.size + 3, i, none⟩) (by show w.heap.size ≤ w.heap.size + 3; omega) _, (o _ (by omega)).trans h.res, (o _ (by omega)).trans h.tb, orow_same h.e (o _ (by omega)), (OwnI.set h.c h.lc i v).1, h.le, by rw [List.length_set]; exact h.lc, orow_heap h.r fun q e => o _ (by have := (World.ownsRow.lt h.r q e).1; omega), fun k k1 k2 => (o _ (by omega)).trans (h.fr k k1 k2), h.s1, by rw [World.size_setCell]; exact h.s2⟩
/-- one more is told, and its row put into the box -/
theorem PM.put (h : PM w wu W n vr rl el cl) {w8 : World} {v8 : Value} {x : List Int} (hg : W.grownBy w8 vr.ownBlock) (ho : OwnI w8 wu.heap.size v8 x) :
    w8.heap[w.heap.size + 2]? = some (.cells #[vr, vS (w.heap.size + 1) n n, .int .i64 0] 25) ∧ PM w wu (w8.setCell ⟨w.heap.size + 2, 0, none⟩ v8) n v8 x el cl := by
  have s1 := h.s1
  have s2 := h.s2
  have hlt := World.ownsRow.lt h.r
  have g : ∀ k, k < wu.heap.size → w8.heap[k]? = W.heap[k]? := fun k hk => hg.block k (by omega) (fun e => by have := (hlt k e.symm).1; omega)
  have t8 := (g (w.heap.size + 2) (by omega)).trans h.tb
  refine ⟨t8, ?_⟩
  have o : ∀ k, k ≠ w.heap.size + 2 → (w8.setCell ⟨w.heap.size + 2, 0, none⟩ v8).heap[k]? = w8.heap[k]? := fun k hk => heap_setCell_other _ _ _ _ hk
  have sz := hg.size
  refine ⟨(h.bel.grown hg h.bel.size (fun q hq => by have := (hlt q hq).1; omega)).setCell (p := ⟨w.heap.size + 2, 0, none⟩) (by show w.heap.size ≤ w.heap.size + 2; omega) _, ((o _ (by omega)).trans (g _ (by omega))).trans h.res, ?_, orow_same h.e ((o _ (by omega)).trans (g _ (by omega))), orow_same h.c ((o _ (by omega)).trans (g _ (by omega))), h.le, h.lc, orow_heap ho fun q e => o _ (by have := (World.ownsRow.lt ho q e).1; omega), fun k k1 k2 => ((o _ (by omega)).trans (g _ (by omega))).trans (h.fr k k1 k2), h.s1, by rw [World.size_setCell]; omega⟩
  rw [heap_setCell_same _ _ _ _ _ _ t8]
  simp
theorem PM.units (h : PM w wu W n vr rl el cl) {v : Value} {l : List LockM.Wk} {us : List Ur} (hu : UT wu (w.heap.size + 4) v l us) : UT W (w.heap.size + 4) v l us :=
  hu.same fun k k1 k2 => h.fr k k1 k2
theorem PM.final (h : PM w wu W n vr rl el cl) (wf : World) (hwf : wf = ((W.setCell ⟨w.heap.size, 0, none⟩ vr).setCell ⟨w.heap.size, 1, none⟩ (vS (w.heap.size + 1) n n)).setCell ⟨w.heap.size, 2, none⟩ (.int .i64 0)) :
    wf.cell? ⟨w.heap.size, 0, none⟩ = some vr ∧ wf.cell? ⟨w.heap.size, 1, none⟩ = some (vS (w.heap.size + 1) n n) ∧ wf.cell? ⟨w.heap.size, 2, none⟩ = some (.int .i64 0) ∧ OwnI wf w.heap.size vr rl ∧ OwnI wf w.heap.size (vS (w.heap.size + 1) n n) el ∧ Below w.heap.size w wf := by
  have h1 := heap_setCell_same _ _ 0 _ _ vr h.res
  have h2 := heap_setCell_same _ _ 1 _ _ (vS (w.heap.size + 1) n n) h1
  have h3 := heap_setCell_same _ _ 2 _ _ (.int .i64 0) h2
  rw [← hwf] at h3
  have o : ∀ k, k ≠ w.heap.size → wf.heap[k]? = W.heap[k]? := by
    intro k hk
    rw [hwf, heap_setCell_other _ _ _ _ hk, heap_setCell_other _ _ _ _ hk, heap_setCell_other _ _ _ _ hk]
  have s1 := h.s1
  refine ⟨by rw [box_cell h3]; simp, by rw [box_cell h3]; simp, by rw [box_cell h3]; simp, OwnI.base' (orow_heap h.r fun q e => o _ (by have := (World.ownsRow.lt h.r q e).1; omega)) (by omega), OwnI.base' (orow_same h.e (o _ (by omega))) (by omega), ?_⟩
  rw [hwf]
  exact ((h.bel.setCell (p := ⟨w.heap.size, 0, none⟩) (Nat.le_refl _) _).setCell (p := ⟨w.heap.size, 1, none⟩) (Nat.le_refl _) _).setCell (p := ⟨w.heap.size, 2, none⟩) (Nat.le_refl _) _
end LockC
end Go.Proofs.Ytllfpbngfkimlaa
