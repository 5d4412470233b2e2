/- slices.Insert of one window: what it is made of. -/
import Derived.Test.YtgehdpohiphcpaaTabD2
import Derived.Lib.Overlaps
import Derived.Lib.AppendZerosOnto
import Derived.Laws.Externs
set_option linter.unusedVariables false
namespace Go.Proofs.Ytgehdpohiphcpaa
open Go.RowKit Go.Shelf
open SpanM SpanC TabM
namespace TabC
theorem flat3_one (l : List Win) : ∀ u ∈ flat3 l, u.oneCell' = true := by
  induction l with
  | nil => simp [flat3]
  | cons x r ih =>
    intro u hu
    simp only [flat3, List.mem_cons] at hu
    rcases hu with rfl | rfl | rfl | hu
    · rfl
    · rfl
    · rfl
    · exact ih u hu
theorem run_copy3 (w : World) (ty : TypeId) (b o dLen dCap : Nat) (a : Addr) (sLen sCap k : Nat) (cs : List Value) (hk : Nat.min sLen dLen = k) (hn : cs.length = k * 3)
    (hsrc : ∀ j v, cs[j]? = some v → w.cell? (a.add j) = some v) (hc : ∀ j, j < cs.length → (w.cell? ⟨b, o + j, none⟩).isSome = true) (hf : ∀ j, j < cs.length → w.frozen? ⟨b, o + j, none⟩ = false) (h1 : ∀ v ∈ cs, v.oneCell' = true) :
    (Builtin.copy_ #[22, 22] ty #[.slice (some ⟨b, o, none⟩) dLen dCap, .slice (some a) sLen sCap]).run Try.prog w = .ok (goInt k) (w.setCells b o cs) := by
  have hl := run_loadCells_list (P := Try.prog) w a cs hsrc
  have hst := run_storeCells_cells (P := Try.prog) b o cs 0 w (by simpa using hc) (by simpa using hf) h1
  obtain ⟨i0, hi, hz0, hz1, hz2⟩ := info_parts infoWin
  simp [Builtin.copy_, run_underlying Try.underlying22, Builtin.lenOf, Builtin.firstCells, sizeOf, typeInfo, hi, hz1, hk, ← hn, hl, hst]
/-- one element more, where there is room -/
theorem own_more {w : World} {B e g n cap : Nat} {xs : List Value} (h : w.ownsRow B e 3 (.slice (some ⟨g, 0, none⟩) n cap) n xs) (hc : n + 1 ≤ cap) : ∃ tl, tl.length = 3 ∧ w.ownsRow B e 3 (.slice (some ⟨g, 0, none⟩) (n + 1) cap) (n + 1) (xs ++ tl) := by
  rcases h.2 with ⟨e0, _⟩ | ⟨g', cap', cur, e0, hb, hg, h1, h2, h3, h4⟩
  · simp at e0
  · simp only [Value.slice.injEq, Option.some.injEq, Addr.mk.injEq, and_true, true_and] at e0
    obtain ⟨rfl, rfl⟩ := e0
    have hl : cur.toList.length = cap * 3 := by simpa using h3
    have e1 : cur.toList.take ((n + 1) * 3) = xs ++ (cur.toList.drop (n * 3)).take 3 := by
      rw [show (n + 1) * 3 = n * 3 + 3 by omega, List.take_add, h4]
    refine ⟨(cur.toList.drop (n * 3)).take 3, by rw [List.length_take, List.length_drop, hl]; omega, by rw [← e1, List.length_take, hl]; omega, .inr ⟨g, cap, cur, rfl, hb, hg, hc, h2, h3, e1⟩⟩
theorem split3 (L : List Win) (i : Nat) : flat3 L = flat3 (L.take i) ++ flat3 (L.drop i) := by rw [← flat3_append, List.take_append_drop]
/-- what the two copies make of it -/
theorem ins_put (L : List Win) (i : Nat) (hi : i ≤ L.length) (x : Win) (tl : List Value) (ht : tl.length = 3) :
    putL (putL (flat3 L ++ tl) ((i + 1) * 3) (flat3 (L.drop i))) (i * 3) (flat3 [x]) = flat3 (L.take i ++ x :: L.drop i) := by
  have hA : (flat3 (L.take i)).length = i * 3 := by rw [flat3_length, List.length_take]; omega
  obtain ⟨b1, b2, hb, hb1⟩ : ∃ b1 b2, flat3 (L.drop i) ++ tl = b1 ++ b2 ∧ b1.length = 3 := ⟨(flat3 (L.drop i) ++ tl).take 3, (flat3 (L.drop i) ++ tl).drop 3, (List.take_append_drop _ _).symm, by rw [List.length_take, List.length_append]; omega⟩
  have hb2 : b2.length = (flat3 (L.drop i)).length := by
    have := congrArg List.length hb
    simp only [List.length_append] at this
    omega
  rw [split3 L i, List.append_assoc, hb, ← List.append_assoc]
  have e1 : (i + 1) * 3 = (flat3 (L.take i) ++ b1).length := by rw [List.length_append, hA, hb1]; omega
  have p1 := putL_eq (flat3 (L.drop i)) (flat3 (L.take i) ++ b1) b2 [] (by rw [hb2])
  rw [List.append_nil, List.append_nil] at p1
  rw [e1, p1]
  have p2 := putL_eq (flat3 [x]) (flat3 (L.take i)) b1 (flat3 (L.drop i)) (by rw [hb1]; rfl)
  rw [hA] at p2
  rw [p2, flat3_append, List.append_assoc]
  rfl
/-- the other way round -/
theorem ins_put2 (L : List Win) (i : Nat) (hi : i ≤ L.length) (x : Win) (z1 z2 : List Value) (h1 : z1.length = 3) (h2 : z2.length = (flat3 (L.drop i)).length) :
    putL (putL (flat3 (L.take i) ++ z1 ++ z2) (i * 3) (flat3 [x])) ((i + 1) * 3) (flat3 (L.drop i)) = flat3 (L.take i ++ x :: L.drop i) := by
  have hA : (flat3 (L.take i)).length = i * 3 := by rw [flat3_length, List.length_take]; omega
  have p1 := putL_eq (flat3 [x]) (flat3 (L.take i)) z1 z2 (by rw [h1]; rfl)
  rw [hA] at p1
  rw [p1]
  have e1 : (i + 1) * 3 = (flat3 (L.take i) ++ flat3 [x]).length := by rw [List.length_append, hA]; simp [flat3]; omega
  have p2 := putL_eq (flat3 (L.drop i)) (flat3 (L.take i) ++ flat3 [x]) z2 [] h2
  rw [List.append_nil, List.append_nil] at p2
  rw [e1, p2, flat3_append, List.append_assoc]
  rfl
end TabC
end Go.Proofs.Ytgehdpohiphcpaa
