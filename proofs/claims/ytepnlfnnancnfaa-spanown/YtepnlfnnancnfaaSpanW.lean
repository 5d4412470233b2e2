/- Lists of spans that a call makes: add, tell. -/
import Derived.Test.YtepnlfnnancnfaaSpanC2
import Derived.WalkSmall
import Derived.OwnWalk
import Derived.Laws.AppendOwn
import Derived.Laws.OwnMore
import Derived.Laws.AppendOwnNone
import Derived.Deep.AppendLies
import Derived.Maps.AppendAt
import Derived.Maps.Range
set_option linter.unusedVariables false
namespace Go.Proofs.Ytepnlfnnancnfaa
open Go.RowKit
open SpanM
namespace SpanC
theorem hid {p : Prop} (h : p) : Hid p := h
theorem infoSp : (Try.prog.info? 45).map (fun i => (i.zero, i.size, i.bytes)) = some (some (.agg #[.int .i64 0, .int .i64 0]), 2, 16) := by kernel_rfl

/-- spans as cells -/
def flat : List Sp → List Value
  | [] => []
  | x :: r => .int .i64 x.1 :: .int .i64 x.2 :: flat r
theorem flat_length (l : List Sp) : (flat l).length = l.length * 2 := by
  induction l with
  | nil => rfl
  | cons x r ih => simp only [flat, List.length_cons, ih]; omega
theorem flat_append (l r : List Sp) : flat (l ++ r) = flat l ++ flat r := by
  induction l with
  | nil => rfl
  | cons x s ih => simp [flat, ih]
theorem flat_at (l : List Sp) (i : Nat) (h : i < l.length) : (flat l)[i * 2]? = some (.int .i64 (l.getD i (0, 0)).1) ∧ (flat l)[i * 2 + 1]? = some (.int .i64 (l.getD i (0, 0)).2) := by
  induction l generalizing i with
  | nil => simp at h
  | cons x r ih =>
    cases i with
    | zero => simp [flat]
    | succ i =>
      have := ih i (by simpa using h)
      rw [show (i + 1) * 2 = i * 2 + 1 + 1 by omega]
      simpa [flat, List.getD] using this
theorem flat_one (l : List Sp) : ∀ u ∈ flat l, u.oneCell' = true := by
  induction l with
  | nil => simp [flat]
  | cons x r ih =>
    intro u hu
    simp only [flat, List.mem_cons] at hu
    rcases hu with rfl | rfl | hu
    · rfl
    · rfl
    · exact ih u hu

/-- a list of spans that a call has made, its memory from block B on -/
def Own (w : World) (B : Nat) (v : Value) (l : List Sp) : Prop := w.ownsRow B 45 2 v l.length (flat l)
theorem Own.nil (w : World) (B : Nat) : Own w B (.slice none 0 0) [] := World.ownsRow_nil w B _ _
theorem Own.form {w : World} {B : Nat} {v : Value} {l : List Sp} (h : Own w B v l) : (v = .slice none 0 0 ∧ l = []) ∨ ∃ g cap, v = .slice (some ⟨g, 0, none⟩) l.length cap ∧ B ≤ g ∧ g < w.heap.size ∧ l.length ≤ cap ∧ cap ≤ maxLen := by
  rcases h.2 with ⟨rfl, h0⟩ | ⟨g, cap, cur, rfl, hb, hg, h1, h2, _⟩
  · exact .inl ⟨rfl, List.length_eq_zero_iff.1 h0⟩
  · exact .inr ⟨g, cap, rfl, hb, (Array.getElem?_eq_some_iff.1 hg).1, h1, h2⟩
theorem Own.sps {w : World} {B : Nat} {v : Value} {l : List Sp} (h : Own w B v l) : ∃ a cap, v = .slice a l.length cap ∧ Sps w a l ∧ l.length ≤ cap ∧ cap ≤ maxLen := by
  rcases h.form with ⟨rfl, rfl⟩ | ⟨g, cap, rfl, hb, hg, h1, h2⟩
  · exact ⟨none, 0, rfl, .inl rfl, by simp, by unfold maxLen; omega⟩
  · refine ⟨_, cap, rfl, .inr ⟨g, 0, rfl, fun i hi => ?_⟩, h1, h2⟩
    obtain ⟨f1, f2⟩ := flat_at l i hi
    have c1 := World.ownsRow.cellAt h (i * 2) (by omega)
    have c2 := World.ownsRow.cellAt h (i * 2 + 1) (by omega)
    rw [Nat.zero_add]
    exact ⟨by rw [c1, f1], by rw [c2, f2]⟩
theorem Own.kept {w w' : World} {B : Nat} {v : Value} {l : List Sp} (h : Own w B v l) (hg : w.grownBy w' none) : Own w' B v l :=
  World.ownsRow.kept h hg (by cases v.ownBlock <;> simp)
theorem grown_of_below {w w' : World} {B : Nat} (hb : Below B w w') (hB : w.heap.size ≤ B) (row : Option Nat) : w.grownBy w' row :=
  ⟨hb.os, hb.tape, hb.output, hb.size, fun k hk _ => hb.block k (by omega)⟩
theorem Own.below {w w' : World} {B C : Nat} {v : Value} {l : List Sp} (h : Own w B v l) (hb : Below C w w') (hC : w.heap.size ≤ C) : Own w' B v l := h.kept (grown_of_below hb hC none)
theorem Own.base {w : World} {B C : Nat} {v : Value} {l : List Sp} (h : Own w B v l) (hC : C ≤ B) : Own w C v l := by
  refine ⟨h.1, ?_⟩
  rcases h.2 with h0 | ⟨g, cap, cur, h1, h2, h3⟩
  · exact .inl h0
  · exact .inr ⟨g, cap, cur, h1, by omega, h3⟩
/-- memory from B on may have turned -/
theorem below_grown {w w' : World} {B C : Nat} {v : Value} {l : List Sp} (ho : Own w B v l) (hg : w.grownBy w' v.ownBlock) (hB : C ≤ B) (hs : C ≤ w.heap.size) : Below C w w' :=
  (Below.refl C w).grown hg hs (fun k hk => by have := (World.ownsRow.lt ho k hk).1; omega)

theorem add_skip (v : Value) (f t : Int) (w : World) (h : t ≤ f) (hv : ∃ a n c, v = .slice a n c) :
    Calls Try.prog 45 #[v, .agg #[.int .i64 f, .int .i64 t]] w fun e w' => e = .returned v ∧ w.grownBy w' none := by
  obtain ⟨a, n, c, rfl⟩ := hv
  go_enter Try.func45, Try.ntmps45
  go_wp2_with fail
  go_ret
  exact ⟨rfl, World.grownBy_alloc _ _ _⟩
set_option maxRecDepth 20000 in
set_option maxHeartbeats 400000 in
theorem add_put (v : Value) (l : List Sp) (f t : Int) (B : Nat) (w : World) (h : f < t) (ho : Own w B v l) (hB : B ≤ w.heap.size) (hl : l.length ≤ 1000) :
    Calls Try.prog 45 #[v, .agg #[.int .i64 f, .int .i64 t]] w fun e w' => ∃ v', e = .returned v' ∧ Own w' B v' (l ++ [(f, t)]) ∧ w.grownBy w' v.ownBlock := by
  obtain ⟨i0, hi, hz0, hz1, hz2⟩ := info_parts infoSp
  have Hi : Hid _ := hi
  have Hz0 : Hid _ := hz0
  have Hz1 : Hid _ := hz1
  have Hz2 : Hid _ := hz2
  clear hi hz0 hz1 hz2
  have HO : Hid (Own w B v l) := ho
  have hv : ∃ a n c, v = .slice a n c := by
    rcases ho.form with ⟨rfl, _⟩ | ⟨g, cap, rfl, _⟩
    · exact ⟨_, _, _, rfl⟩
    · exact ⟨_, _, _, rfl⟩
  clear ho
  obtain ⟨a, n, c, rfl⟩ := hv
  go_enter Try.func45, Try.ntmps45
  go_wp2_with (at_builtin; refine wpList_append_own _ rfl _ _ 22 rfl B 45 i0 (.agg #[.int .i64 0, .int .i64 0]) 2 16 Try.underlying22 Hi.out Hz0.out Hz1.out Hz2.out rfl (by decide) _ l.length (flat l) rfl ?qc0 ⟨w.heap.size + 1, 0, none⟩ 1 1 [.int .i64 f, .int .i64 t] ?qcx ?qc1 ?qc2 ?qc3 ?qc4 ?qc5 ?qc6 ?_)
  case qc0 => exact World.ownsRow.alloc (World.ownsRow.alloc HO.out _) _
  case qcx => rfl
  case qc1 => simp
  case qc2 =>
    intro j u hj
    match j, hj with
    | 0, hj => simp at hj; subst hj; exact World.cell?_alloc_at _ _ _ _ (by simp)
    | 1, hj => simp at hj; subst hj; exact World.cell?_alloc_at _ _ _ _ (by simp)
    | j + 2, hj => simp at hj
  case qc3 => intro u hu; simp at hu; rcases hu with rfl | rfl <;> rfl
  case qc4 => unfold maxLen; omega
  case qc5 => omega
  case qc6 => simp; omega
  intro v' w1 hown hgrow hnil
  go_wp2_with fail
  go_ret
  refine ⟨v', rfl, ?_, ?_⟩
  · unfold Own
    rw [flat_append, List.length_append]
    exact hown
  · exact ((World.grownBy_alloc _ _ _).trans (World.grownBy_alloc _ _ _)).trans hgrow
theorem Own.slice {w : World} {B : Nat} {v : Value} {l : List Sp} (h : Own w B v l) : ∃ a n c, v = .slice a n c := by
  rcases h.form with ⟨rfl, _⟩ | ⟨g, cap, rfl, _⟩
  · exact ⟨_, _, _, rfl⟩
  · exact ⟨_, _, _, rfl⟩
theorem add_any (v : Value) (l : List Sp) (f t : Int) (B : Nat) (w : World) (ho : Own w B v l) (hB : B ≤ w.heap.size) (hl : l.length ≤ 1000) :
    Calls Try.prog 45 #[v, .agg #[.int .i64 f, .int .i64 t]] w fun e w' => ∃ v', e = .returned v' ∧ Own w' B v' (addL l (f, t)) ∧ w.grownBy w' v.ownBlock := by
  unfold addL
  by_cases h : f < t
  · rw [if_pos (by exact h)]
    exact add_put v l f t B w h ho hB hl
  · rw [if_neg (by exact h)]
    exact (add_skip v f t w (by omega) ho.slice).mono fun e w' ⟨he, hg⟩ => ⟨v, he, ho.kept hg, ⟨hg.os, hg.tape, hg.output, hg.size, fun k hk _ => hg.block k hk (by simp)⟩⟩

theorem tell_ok (v : Value) (n c : Nat) (a : Option Addr) (size : Int) (w : World) (h : n ≤ 200) :
    Calls Try.prog 46 #[.int .i64 size, .slice a n c] w fun e w' => e = .returned (.tuple #[.agg #[.int .i64 size, .slice a n c], .int .i64 0]) ∧ Below w.heap.size w w' := by
  have hn : ¬ (200 : Int) < (n : Int) := by omega
  go_enter Try.func46, Try.ntmps46
  go_wp2_with fail
  go_returns
  exact ⟨rfl, by go_grown⟩
theorem tell_large (n c : Nat) (a : Option Addr) (size : Int) (w : World) (h : 200 < n) :
    Calls Try.prog 46 #[.int .i64 size, .slice a n c] w fun e w' => e = .returned (.tuple #[.agg #[.int .i64 0, .slice none 0 0], .int .i64 2]) ∧ Below w.heap.size w w' := by
  have hn : (200 : Int) < (n : Int) := by omega
  go_enter Try.func46, Try.ntmps46
  go_wp2_with fail
  go_returns
  exact ⟨rfl, by go_grown⟩
/-- what is told of a set, with an error if it has too many spans -/
def Told (size : Int) (r : List Sp) (B : Nat) (e : Ending) (w' : World) : Prop :=
  (r.length ≤ 200 ∧ ∃ v, e = .returned (.tuple #[.agg #[.int .i64 size, v], .int .i64 0]) ∧ Own w' B v r) ∨
  (200 < r.length ∧ e = .returned (.tuple #[.agg #[.int .i64 0, .slice none 0 0], .int .i64 2]))
theorem tell_any (v : Value) (r : List Sp) (size : Int) (B : Nat) (w : World) (ho : Own w B v r) :
    Calls Try.prog 46 #[.int .i64 size, v] w fun e w' => (∃ s u er, e = .returned (.tuple #[.agg #[.int .i64 s, u], .int .i64 er]) ∧ (∃ a n c, u = .slice a n c) ∧ Told size r B (.returned (.tuple #[.agg #[.int .i64 s, u], .int .i64 er])) w') ∧ Below w.heap.size w w' := by
  have hf : ∃ a c, v = .slice a r.length c := by
    obtain ⟨a, c, h, _⟩ := ho.sps
    exact ⟨a, c, h⟩
  obtain ⟨a, c, rfl⟩ := hf
  by_cases h : r.length ≤ 200
  · exact (tell_ok (.slice a r.length c) _ c a size w h).mono fun e w' ⟨he, hb⟩ => ⟨⟨_, _, _, he, ⟨_, _, _, rfl⟩, .inl ⟨h, _, rfl, ho.below hb (Nat.le_refl _)⟩⟩, hb⟩
  · exact (tell_large _ c a size w (by omega)).mono fun e w' ⟨he, hb⟩ => ⟨⟨_, _, _, he, ⟨_, _, _, rfl⟩, .inr ⟨by omega, rfl⟩⟩, hb⟩

end SpanC
end Go.Proofs.Ytepnlfnnancnfaa
