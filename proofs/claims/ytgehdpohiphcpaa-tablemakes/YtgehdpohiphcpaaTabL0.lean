/- What the laws on tables keep. -/
import Derived.Test.YtgehdpohiphcpaaTabX
import Derived.Test.YtgehdpohiphcpaaSpanE
set_option linter.unusedVariables false
namespace Go.Proofs.Ytgehdpohiphcpaa
open Go.RowKit
open SpanM SpanC TabM
namespace TabC
/-- a set that lies in a block of a law's own -/
structure CellS (W : World) (b : Nat) (s : Int) (a : Option Addr) (c : Nat) (r : List Sp) : Prop where
  lt : b < W.heap.size
  c0 : W.cell? ⟨b, 0, none⟩ = some (.int .i64 s)
  c1 : W.cell? ⟨b, 1, none⟩ = some (.slice a r.length c)
  sp : Sps W a r
  ml : r.length ≤ maxLen
theorem CellS.step {W W' : World} {b : Nat} {s : Int} {a : Option Addr} {c : Nat} {r : List Sp} (h : CellS W b s a c r) (hb : Below W.heap.size W W') : CellS W' b s a c r where
  lt := Nat.lt_of_lt_of_le h.lt hb.size
  c0 := (hb.cell h.lt).trans h.c0
  c1 := (hb.cell h.lt).trans h.c1
  sp := h.sp.below hb (Nat.le_refl _)
  ml := h.ml
theorem CellS.alloc {W : World} {b : Nat} {s : Int} {a : Option Addr} {c : Nat} {r : List Sp} (h : CellS W b s a c r) (o : Obj) : CellS (W.alloc o) b s a c r := h.step (Below.alloc (Below.refl _ _) (Nat.le_refl _) _)
theorem CellS.new {W : World} {s : Int} {a : Option Addr} {c : Nat} {r : List Sp} (h : Sps W a r) (ml : r.length ≤ maxLen) : CellS (W.alloc (.cells #[.int .i64 s, .slice a r.length c] 30)) W.heap.size s a c r where
  lt := by simp
  c0 := World.cell?_alloc_at _ _ _ _ rfl
  c1 := World.cell?_alloc_at _ _ _ _ rfl
  sp := h.below (Below.alloc (Below.refl _ _) (Nat.le_refl _) _) (Nat.le_refl _)
  ml := ml
theorem CellS.nil (W : World) : CellS (W.alloc (.cells #[.int .i64 0, .slice none 0 0] 30)) W.heap.size 0 none 0 [] := CellS.new (.inl rfl) (by simp)
/-- the table that came in, in a block of the law's own -/
abbrev TabIn (w W : World) (size : Int) (v : Value) : Prop := Below (w.heap.size + 1) (w.alloc (.cells #[.int .i64 size, v] 24)) W
theorem TabIn.wns {w W : World} {size : Int} {v : Value} {a : Option Addr} {l : List Win} (h : TabIn w W size v) (hr : Wns w a l) : Wns W a l := hr.below (of_alloc h) (Nat.le_refl _)
theorem TabIn.al {w W W' : World} {size : Int} {v : Value} {o : Obj} (h : TabIn w W size v) (hb : Below (W.alloc o).heap.size (W.alloc o) W') : TabIn w W' size v :=
  bel_al h (by have := h.size; simpa using this) hb
theorem Own.ml {w : World} {B : Nat} {v : Value} {l : List Sp} (h : Own w B v l) : ∃ a c, v = .slice a l.length c ∧ Sps w a l ∧ l.length ≤ maxLen := by
  obtain ⟨a, c, h1, h2, h3, h4⟩ := h.sps
  exact ⟨a, c, h1, h2, Nat.le_trans h3 h4⟩
theorem times_says (size o : Int) (a : Option Addr) (cap : Nat) (l : List Win) (w : World) (hr : Wns w a l) :
    Calls Try.prog 12 #[.agg #[.int .i64 size, .slice a l.length cap], .int .i64 o] w fun e w' => (∃ s a' c r er, e = .returned (.tuple #[.agg #[.int .i64 s, .slice a' r.length c], .int .i64 er]) ∧ Sps w' a' r ∧ r.length ≤ maxLen ∧ er = timE size o l ∧ (er = 0 → s = size ∧ chk size r = 0 ∧ ∀ t, mem r t = decide (wown l t = o)) ∧ (er ≠ 0 → s = 0 ∧ r = [])) ∧ Below w.heap.size w w' := by
  refine (times_any size o a cap l w hr).mono ?_
  rintro e w' ⟨⟨h0, v, r, rfl, ho, hg, hm, hl⟩ | ⟨h0, rfl⟩, hb⟩
  · obtain ⟨a', c, rfl, hs, hml⟩ := Own.ml ho
    obtain ⟨k1, k2, k3⟩ := timE_zero h0
    obtain ⟨s1, s2, s3, s4⟩ := tchk_zero k1
    exact ⟨⟨size, a', c, r, 0, rfl, hs, hml, h0.symm, fun _ => ⟨rfl, chk_of s1 s2 hl hg, fun t => (hm t).trans (spo_own (wgood_apart s4) k2 t)⟩, fun h => absurd rfl h⟩, hb⟩
  · exact ⟨⟨0, none, 0, [], _, rfl, .inl rfl, by simp, rfl, fun h => absurd h h0, fun _ => ⟨rfl, rfl⟩⟩, hb⟩
theorem timesOf_says (size o : Int) (a : Option Addr) (cap : Nat) (l : List Win) (w : World) (hr : Wns w a l) (hk : tchk size l = 0) (ho0 : 0 ≤ o) :
    Calls Try.prog 16 #[.agg #[.int .i64 size, .slice a l.length cap], .int .i64 o] w fun e w' => (∃ a' c r, e = .returned (.agg #[.int .i64 size, .slice a' r.length c]) ∧ Own w' w.heap.size (.slice a' r.length c) r ∧ ∀ r', chk size r' = 0 → (∀ t, mem r' t = decide (wown l t = o)) → r' = r) ∧ Below w.heap.size w w' := by
  obtain ⟨s1, s2, s3, s4⟩ := tchk_zero hk
  refine (timesOf_any size o a cap l w hr hk).mono ?_
  rintro e w' ⟨⟨v, r, rfl, ho, hg, hm⟩, hb⟩
  obtain ⟨a', c, rfl, hs, hml⟩ := Own.ml ho
  refine ⟨⟨a', c, r, rfl, ho, fun r' h1 h2 => unique (chk_zero h1).2.2.2 hg fun t => ?_⟩, hb⟩
  rw [h2 t, hm t]
  by_cases ht : 0 ≤ t ∧ t < size
  · rw [decide_eq_true ht, Int.emod_eq_of_lt ht.1 ht.2]; rfl
  · rw [decide_eq_false ht, ← h2 t]
    cases hx : mem r' t
    · rfl
    · have := good_mem (chk_zero h1).2.2.2 hx; omega
theorem same_true {W : World} {b1 b2 : Nat} {s : Int} {a1 a2 : Option Addr} {c1 c2 : Nat} {r : List Sp} (h1 : CellS W b1 s a1 c1 r) (h2 : CellS W b2 s a2 c2 r) :
    Calls Try.prog 18 #[.agg #[.int .i64 s, .slice a1 r.length c1], .agg #[.int .i64 s, .slice a2 r.length c2]] W fun e w' => e = .returned (.bool true) ∧ Below W.heap.size W w' := by
  have := same_any s s a1 a2 c1 c2 r r W h1.sp h2.sp h1.ml h2.ml
  rwa [decide_eq_true ⟨rfl, rfl⟩] at this
/-- a set that is stored into a block B that the law laid -/
theorem CellS.set {W : World} {B : Nat} {s : Int} {a : Option Addr} {c : Nat} {r : List Sp} {x y : Value} (q0 : W.cell? ⟨B, 0, none⟩ = some x) (q1 : W.cell? ⟨B, 1, none⟩ = some y) (hB : B < W.heap.size) (ho : Own W (B + 1) (.slice a r.length c) r) :
    CellS ((W.setCell ⟨B, 0, none⟩ (.int .i64 s)).setCell ⟨B, 1, none⟩ (.slice a r.length c)) B s a c r := by
  have ho' : Own ((W.setCell ⟨B, 0, none⟩ (.int .i64 s)).setCell ⟨B, 1, none⟩ (.slice a r.length c)) (B + 1) (.slice a r.length c) r := ownsRow_setCell_below (ownsRow_setCell_below ho (by simp) _) (by simp) _
  obtain ⟨a', c', hv, hs, hml⟩ := Own.ml ho'
  simp only [Value.slice.injEq] at hv
  obtain ⟨rfl, _, rfl⟩ := hv
  exact { lt := by simpa using hB
          c0 := (World.cell?_setCell_other _ _ _ _ (by simp)).trans (World.cell?_setCell_same _ _ _ q0)
          c1 := World.cell?_setCell_same _ _ _ ((World.cell?_setCell_other _ _ _ _ (by simp)).trans q1)
          sp := hs
          ml := hml }
end TabC
end Go.Proofs.Ytgehdpohiphcpaa
