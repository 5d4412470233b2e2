/- SpanOwn: the answers as memory whose cells are all ints; what came in, and its clones; same. -/
import Derived.Test.YtepnlfnnancnfaaSpanOw1
import Derived.Test.YtepnlfnnancnfaaSpanZ
import Derived.Test.YtepnlfnnancnfaaSpanO
import Derived.Test.YtepnlfnnancnfaaSpanD2
import Derived.Test.YtepnlfnnancnfaaSpanD3
import Derived.Test.YtepnlfnnancnfaaSpanD5
import Derived.Test.YtepnlfnnancnfaaSpanD6
set_option linter.unusedVariables false
namespace Go.Proofs.Ytepnlfnnancnfaa
open Go.RowKit
open SpanM
namespace SpanC
/-- a slice of spans, its memory from block B on, all of its block's cells ints -/
def Kv (w : World) (B : Nat) (v : Value) : Prop := v = .slice none 0 0 ∨ ∃ g n cap cur, v = .slice (some ⟨g, 0, none⟩) n cap ∧ B ≤ g ∧ w.heap[g]? = some (.cells cur 45 (0, 0)) ∧ n ≤ cap ∧ cap ≤ maxLen ∧ cur.size = cap * 2 ∧ ∀ u ∈ cur.toList, IntV u
theorem OwnK.kv {w : World} {B : Nat} {v : Value} {l : List Sp} (h : OwnK w B v l) : Kv w B v := by
  obtain ⟨h1, h2⟩ := h
  rcases h1.2 with ⟨rfl, _⟩ | ⟨g, cap, cur, rfl, hb, hg, h3, h4, h5, _⟩
  · exact .inl rfl
  · obtain ⟨cur', e, fr, hg', hi⟩ := h2 g _ cap rfl
    rw [hg] at hg'
    simp only [Option.some.injEq, Obj.cells.injEq] at hg'
    obtain ⟨rfl, _, _⟩ := hg'
    exact .inr ⟨g, _, cap, cur, rfl, hb, hg, h3, h4, h5, hi⟩
theorem Kv.below {w w' : World} {B : Nat} {v : Value} (h : Kv w B v) (hb : Below w.heap.size w w') : Kv w' B v := by
  rcases h with rfl | ⟨g, n, cap, cur, rfl, h1, h2, h3⟩
  · exact .inl rfl
  · have hlt : g < w.heap.size := (Array.getElem?_eq_some_iff.1 h2).1
    exact .inr ⟨g, n, cap, cur, rfl, h1, (hb.block g hlt).trans h2, h3⟩
theorem Kv.base {w : World} {B C : Nat} {v : Value} (h : Kv w B v) (hC : C ≤ B) : Kv w C v := by
  rcases h with rfl | ⟨g, n, cap, cur, rfl, h1, h2⟩
  · exact .inl rfl
  · exact .inr ⟨g, n, cap, cur, rfl, by omega, h2⟩
theorem Kv.slice {w : World} {B : Nat} {v : Value} (h : Kv w B v) : ∃ a n c, v = .slice a n c := by
  rcases h with rfl | ⟨g, n, cap, cur, rfl, _⟩
  · exact ⟨_, _, _, rfl⟩
  · exact ⟨_, _, _, rfl⟩
theorem Kv.cap {w : World} {B n cap : Nat} {a : Option Addr} (h : Kv w B (.slice a n cap)) : n ≤ cap ∧ cap ≤ maxLen ∧ (a = none → cap = 0) ∧ (∀ p, a = some p → p.off = 0 ∧ p.spot = none) := by
  rcases h with h | ⟨g, n', cap', cur, e, h1, h2, h3, h4, _⟩
  · simp at h
    obtain ⟨rfl, rfl, rfl⟩ := h
    exact ⟨Nat.le_refl _, by unfold maxLen; omega, fun _ => rfl, fun p h => by simp at h⟩
  · simp at e
    obtain ⟨rfl, rfl, rfl⟩ := e
    exact ⟨h3, h4, fun h => by simp at h, fun p h => by simp at h; subst h; exact ⟨rfl, rfl⟩⟩
theorem Kv.some_of {w : World} {B n cap : Nat} {a : Option Addr} (h : Kv w B (.slice a n cap)) (hc : 0 < cap) : ∃ g, a = some ⟨g, 0, none⟩ := by
  rcases h with h | ⟨g, n', cap', cur, e, _⟩
  · simp at h; omega
  · simp at e; exact ⟨g, e.1⟩
theorem Kv.set {w : World} {B : Nat} {v : Value} (h : Kv w B v) (a : Addr) (z : Int) : Kv (w.setCell a (.int .i64 z)) B v := by
  rcases h with rfl | ⟨g, n, cap, cur, rfl, h1, h2, h3, h4, h5, h6⟩
  · exact .inl rfl
  · by_cases hg : a.block = g
    · refine .inr ⟨g, n, cap, if a.spot.isSome then cur else cur.setIfInBounds a.off (.int .i64 z), rfl, h1, ?_, h3, h4, ?_, ?_⟩
      · subst hg
        simp only [World.setCell, Array.getElem?_modify]
        rw [if_pos trivial, h2]
        rfl
      · split
        · exact h5
        · simpa using h5
      · intro y hy
        split at hy
        · exact h6 y hy
        · rw [Array.toList_setIfInBounds] at hy
          rcases List.mem_or_eq_of_mem_set hy with hy | rfl
          · exact h6 y hy
          · exact ⟨z, rfl⟩
    · exact .inr ⟨g, n, cap, cur, rfl, h1, by rw [Below.heap_setCell _ _ _ _ (by omega)]; exact h2, h3, h4, h5, h6⟩
theorem Kv.at {w : World} {B g n cap : Nat} (h : Kv w B (.slice (some ⟨g, 0, none⟩) n cap)) (i : Nat) (hi : i < cap) : B ≤ g ∧ (∃ z, w.cell? ⟨g, i * 2, none⟩ = some (.int .i64 z)) ∧ w.frozen? ⟨g, i * 2, none⟩ = false := by
  rcases h with h | ⟨g', n', cap', cur, e, h1, h2, h3, h4, h5, h6⟩
  · simp at h
  · simp only [Value.slice.injEq, Option.some.injEq, Addr.mk.injEq] at e
    obtain ⟨⟨rfl, _⟩, rfl, rfl⟩ := e
    have hlt : i * 2 < cur.size := by omega
    obtain ⟨z, hz⟩ := h6 cur[i * 2] (by simp)
    refine ⟨h1, ⟨z, ?_⟩, ?_⟩
    · simp [World.cell?, h2, hlt, hz]
    · simp [World.frozen?, h2]
/-- what one of the four tells -/
def Tel (W : World) (B : Nat) (e : Ending) : Prop := ∃ s v er, e = .returned (.tuple #[.agg #[.int .i64 s, v], .int .i64 er]) ∧ Kv W B v
theorem Tel.err {W : World} {B : Nat} {e : Ending} {er : Int} (h : e = .returned (.tuple #[.agg #[.int .i64 0, .slice none 0 0], .int .i64 er])) : Tel W B e := ⟨0, _, er, h, .inl rfl⟩
theorem Tel.told {W : World} {B : Nat} {e : Ending} {size : Int} {r : List Sp} (h : ToldK size r B e W) : Tel W B e := by
  rcases h with ⟨_, v, rfl, ho⟩ | ⟨_, h⟩
  · exact ⟨_, _, _, rfl, ho.kv⟩
  · exact .err h
theorem of_tel (size : Int) (a : Option Addr) (cap : Nat) (l : List Sp) (w : World) (hr : Sps w a l) :
    Calls Try.prog 31 #[.int .i64 size, .slice a l.length cap] w fun e w' => Tel w' w.heap.size e ∧ Below w.heap.size w w' := by
  by_cases h1 : 1 ≤ size ∧ size ≤ 1000000
  · by_cases h2 : 200 < l.length
    · exact (of_large size a _ cap w h1.1 h1.2 h2).mono fun e w' ⟨he, hb⟩ => ⟨.err he, hb⟩
    · refine (of_listK size a cap l w h1.1 h1.2 h2 hr).mono fun e w' ⟨he, hb⟩ => ⟨?_, hb⟩
      rcases he with ⟨_, v, r, rfl, ho, _⟩ | ⟨_, he⟩
      · exact ⟨_, _, _, rfl, ho.kv⟩
      · exact .err he
  · exact (of_arg size a _ cap w h1).mono fun e w' ⟨he, hb⟩ => ⟨.err he, hb⟩
theorem not_tel (size : Int) (a : Option Addr) (cap : Nat) (l : List Sp) (w : World) (hr : Sps w a l) :
    Calls Try.prog 26 #[.agg #[.int .i64 size, .slice a l.length cap]] w fun e w' => Tel w' w.heap.size e ∧ Below w.heap.size w w' := by
  by_cases hk : chk size l = 0
  · exact (not_okK size a cap l w hr hk).mono fun e w' ⟨he, hb⟩ => ⟨.told he, hb⟩
  · exact (not_err size a cap l w hr hk).mono fun e w' ⟨he, hb⟩ => ⟨.err he, hb⟩
theorem both_tel (s1 s2 : Int) (a1 a2 : Option Addr) (c1 c2 : Nat) (l m : List Sp) (w : World) (h1 : Sps w a1 l) (h2 : Sps w a2 m) :
    Calls Try.prog 32 #[.agg #[.int .i64 s1, .slice a1 l.length c1], .agg #[.int .i64 s2, .slice a2 m.length c2]] w fun e w' => Tel w' w.heap.size e ∧ Below w.heap.size w w' := by
  by_cases hk : chk2 s1 l s2 m = 0
  · obtain ⟨k1, k2, rfl⟩ := chk2_zero hk
    exact (both_okK _ a1 a2 c1 c2 l m w h1 h2 k1 k2).mono fun e w' ⟨⟨r, _, _, he⟩, hb⟩ => ⟨.told he, hb⟩
  · exact (both_err s1 s2 a1 a2 c1 c2 l m w h1 h2 hk).mono fun e w' ⟨he, hb⟩ => ⟨.err he, hb⟩
theorem either_tel (s1 s2 : Int) (a1 a2 : Option Addr) (c1 c2 : Nat) (l m : List Sp) (w : World) (h1 : Sps w a1 l) (h2 : Sps w a2 m) (z1 : a1 = none → c1 = 0) (z2 : a2 = none → c2 = 0) :
    Calls Try.prog 33 #[.agg #[.int .i64 s1, .slice a1 l.length c1], .agg #[.int .i64 s2, .slice a2 m.length c2]] w fun e w' => Tel w' w.heap.size e ∧ Below w.heap.size w w' := by
  by_cases hk : chk2 s1 l s2 m = 0
  · obtain ⟨k1, k2, rfl⟩ := chk2_zero hk
    exact (either_okK _ a1 a2 c1 c2 l m w h1 h2 z1 z2 k1 k2).mono fun e w' ⟨⟨r, _, _, he⟩, hb⟩ => ⟨.told he, hb⟩
  · exact (either_err s1 s2 a1 a2 c1 c2 l m w h1 h2 hk).mono fun e w' ⟨he, hb⟩ => ⟨.err he, hb⟩
/-- what came in, and the clones, in memory -/
structure OB (w W : World) (s1 s2 : Int) (a1 a2 a3 x1 x2 x3 : Option Addr) (c1 c2 c3 d1 d2 d3 b7 b8 b9 : Nat) (l1 l2 l3 : List Sp) : Prop where
  be : Below w.heap.size w W
  f0 : W.cell? ⟨w.heap.size, 0, none⟩ = some (.int .i64 s1)
  f1 : W.cell? ⟨w.heap.size, 1, none⟩ = some (.slice a1 l1.length c1)
  g0 : W.cell? ⟨w.heap.size + 1, 0, none⟩ = some (.int .i64 s2)
  g1 : W.cell? ⟨w.heap.size + 1, 1, none⟩ = some (.slice a2 l2.length c2)
  e0 : W.cell? ⟨w.heap.size + 1 + 1, 0, none⟩ = some (.slice a3 l3.length c3)
  x7 : W.cell? ⟨b7, 0, none⟩ = some (.slice x1 l1.length d1)
  x8 : W.cell? ⟨b8, 0, none⟩ = some (.slice x2 l2.length d2)
  x9 : W.cell? ⟨b9, 0, none⟩ = some (.slice x3 l3.length d3)
  p1 : Sps W x1 l1
  p2 : Sps W x2 l2
  p3 : Sps W x3 l3
theorem OB.step {w W W' : World} {s1 s2 : Int} {a1 a2 a3 x1 x2 x3 : Option Addr} {c1 c2 c3 d1 d2 d3 b7 b8 b9 : Nat} {l1 l2 l3 : List Sp} (h : OB w W s1 s2 a1 a2 a3 x1 x2 x3 c1 c2 c3 d1 d2 d3 b7 b8 b9 l1 l2 l3) (hb : Below W.heap.size W W') : OB w W' s1 s2 a1 a2 a3 x1 x2 x3 c1 c2 c3 d1 d2 d3 b7 b8 b9 l1 l2 l3 where
  be := bel_of h.be hb
  f0 := (hb.cell (World.block_lt_of_cell? _ _ h.f0)).trans h.f0
  f1 := (hb.cell (World.block_lt_of_cell? _ _ h.f1)).trans h.f1
  g0 := (hb.cell (World.block_lt_of_cell? _ _ h.g0)).trans h.g0
  g1 := (hb.cell (World.block_lt_of_cell? _ _ h.g1)).trans h.g1
  e0 := (hb.cell (World.block_lt_of_cell? _ _ h.e0)).trans h.e0
  x7 := (hb.cell (World.block_lt_of_cell? _ _ h.x7)).trans h.x7
  x8 := (hb.cell (World.block_lt_of_cell? _ _ h.x8)).trans h.x8
  x9 := (hb.cell (World.block_lt_of_cell? _ _ h.x9)).trans h.x9
  p1 := h.p1.below hb (Nat.le_refl _)
  p2 := h.p2.below hb (Nat.le_refl _)
  p3 := h.p3.below hb (Nat.le_refl _)
set_option maxHeartbeats 1000000 in
theorem same_tel {w W : World} {s1 s2 : Int} {a1 a2 a3 x1 x2 x3 : Option Addr} {c1 c2 c3 d1 d2 d3 b7 b8 b9 : Nat} {l1 l2 l3 : List Sp} (h : OB w W s1 s2 a1 a2 a3 x1 x2 x3 c1 c2 c3 d1 d2 d3 b7 b8 b9 l1 l2 l3)
    (h1 : Sps w a1 l1) (h2 : Sps w a2 l2) (h3 : Sps w a3 l3) (m1 : l1.length ≤ maxLen) (m2 : l2.length ≤ maxLen) (m3 : l3.length ≤ maxLen) :
    Calls Try.prog 29 #[.pointer (some ⟨w.heap.size, 0, none⟩), .pointer (some ⟨b7, 0, none⟩), .pointer (some ⟨w.heap.size + 1, 0, none⟩), .pointer (some ⟨b8, 0, none⟩), .pointer (some ⟨w.heap.size + 1 + 1, 0, none⟩), .pointer (some ⟨b9, 0, none⟩)] W fun e w' => e = .returned (.bool true) ∧ Below W.heap.size W w' := by
  have E1 := hid (fun V (hb : Below W.heap.size W V) => equal_below a1 x1 c1 d1 l1 l1 V (h1.below (h.step hb).be (Nat.le_refl _)) (h.step hb).p1 m1 m1)
  have E2 := hid (fun V (hb : Below W.heap.size W V) => equal_below a2 x2 c2 d2 l2 l2 V (h2.below (h.step hb).be (Nat.le_refl _)) (h.step hb).p2 m2 m2)
  have E3 := hid (fun V (hb : Below W.heap.size W V) => equal_below a3 x3 c3 d3 l3 l3 V (h3.below (h.step hb).be (Nat.le_refl _)) (h.step hb).p3 m3 m3)
  simp only [decide_true] at E1 E2 E3
  have OB0 := hid h
  obtain ⟨_, f0, f1, g0, g1, e0, x7, x8, x9, _, _, _⟩ := h
  clear h1 h2 h3 m1 m2 m3
  go_enter Try.func29, Try.ntmps29
  go_wp2_with fail
  refine (E1.out _ (Below.refl _ _)).mono ?_
  rintro e w1 ⟨rfl, b1⟩
  have OB1 := hid (OB0.out.step b1)
  have B1 := hid b1
  clear f0 f1 g0 g1 e0 x7 x8 x9 b1
  obtain ⟨_, f0, f1, g0, g1, e0, x7, x8, x9, _, _, _⟩ := OB1.out
  go_wp2_with fail
  refine (E2.out _ B1.out).mono ?_
  rintro e w2 ⟨rfl, b2⟩
  have OB2 := hid (OB1.out.step b2)
  have B2 := hid (bel_of B1.out b2)
  clear f0 f1 g0 g1 e0 x7 x8 x9 b2
  obtain ⟨_, f0, f1, g0, g1, e0, x7, x8, x9, _, _, _⟩ := OB2.out
  go_wp2_with fail
  refine (E3.out _ B2.out).mono ?_
  rintro e w3 ⟨rfl, b3⟩
  have B3 := hid (bel_of B2.out b3)
  clear f0 f1 g0 g1 e0 x7 x8 x9 b3
  go_wp2_with fail
  go_ret
  exact ⟨by first | rfl | simp, B3.out⟩
end SpanC
end Go.Proofs.Ytepnlfnnancnfaa
