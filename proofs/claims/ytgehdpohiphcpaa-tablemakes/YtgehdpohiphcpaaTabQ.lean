/- What a law is told of turns. -/
import Derived.Test.YtgehdpohiphcpaaTabV
set_option linter.unusedVariables false
namespace Go.Proofs.Ytgehdpohiphcpaa
open Go.RowKit
open SpanM SpanC TabM
namespace TabC
def TurnsP (size f t : Int) (l : List Win) (L : List Win) (er : Int) : Prop :=
  (er = 0 ∧ tchk size l = 0 ∧ 0 ≤ f ∧ f ≤ t ∧ t ≤ 1099511627776 ∧ Rle (wat size l) none f L t ∧ L.length ≤ 400) ∨
  (L = [] ∧ er ≠ 0 ∧ ((tchk size l ≠ 0 ∧ er = tchk size l) ∨ (tchk size l = 0 ∧ ¬ (0 ≤ f ∧ f ≤ t ∧ t ≤ 1099511627776) ∧ er = 1) ∨ (tchk size l = 0 ∧ 0 ≤ f ∧ f ≤ t ∧ t ≤ 1099511627776 ∧ er = 2 ∧ ∃ c M, c ≤ t ∧ Rle (wat size l) none f M c ∧ 400 < M.length)))
theorem turns_says (size f t : Int) (a : Option Addr) (cap : Nat) (l : List Win) (w : World) (hr : Wns w a l) :
    Calls Try.prog 22 #[.agg #[.int .i64 size, .slice a l.length cap], .int .i64 f, .int .i64 t] w fun e w' => (∃ a' c L er, e = .returned (.tuple #[.slice a' L.length c, .int .i64 er]) ∧ Wns w' a' L ∧ L.length ≤ maxLen ∧ TurnsP size f t l L er) ∧ Below w.heap.size w w' := by
  by_cases hk : tchk size l = 0
  · by_cases h : 0 ≤ f ∧ f ≤ t ∧ t ≤ 1099511627776
    · obtain ⟨h1, h2, h3⟩ := h
      refine (turns_ok size f t a cap l w hr hk h1 h2 h3).mono ?_
      rintro e w' ⟨⟨v, L, rfl, ho, hR, hL⟩ | ⟨rfl, hM⟩, hb⟩
      · obtain ⟨a', c, rfl, hw, h4, h5⟩ := ho.wns fun x hx => by
          obtain ⟨q1, q2, q3, _⟩ := hR.each x hx
          omega
        exact ⟨⟨a', c, L, 0, rfl, hw, Nat.le_trans h4 h5, .inl ⟨rfl, hk, h1, h2, h3, hR, hL⟩⟩, hb⟩
      · exact ⟨⟨none, 0, [], 2, rfl, ⟨by simp, .inl rfl⟩, by simp, .inr ⟨rfl, by decide, .inr (.inr ⟨hk, h1, h2, h3, rfl, hM⟩)⟩⟩, hb⟩
    · refine (turns_arg size f t a cap l w hr hk h).mono ?_
      rintro e w' ⟨rfl, hb⟩
      exact ⟨⟨none, 0, [], 1, rfl, ⟨by simp, .inl rfl⟩, by simp, .inr ⟨rfl, by decide, .inr (.inl ⟨hk, h, rfl⟩)⟩⟩, hb⟩
  · refine (turns_err size f t a cap l w hr hk).mono ?_
    rintro e w' ⟨rfl, hb⟩
    exact ⟨⟨none, 0, [], _, rfl, ⟨by simp, .inl rfl⟩, by simp, .inr ⟨rfl, hk, .inl ⟨hk, rfl⟩⟩⟩, hb⟩
theorem wat_shift {size : Int} {l : List Win} (t : Int) : wat size l (t - size) = wat size l t := by
  unfold wat
  rw [Int.sub_emod_right]
/-- a frame later -/
theorem turnsP_later {size f t er : Int} {l L M : List Win} (h : Rle (wat size l) none f L t) (hL : L.length ≤ 400) (hk : tchk size l = 0) (h1 : 0 ≤ f) (h2 : f ≤ t) (h3 : t + size ≤ 1099511627776) (hM : TurnsP size (f + size) (t + size) l M er) : er = 0 ∧ M = L.map fun x => (x.1 + size, x.2) := by
  have hs := (tchk_zero hk).1
  have hR : Rle (wat size l) none (f + size) (L.map fun x => (x.1 + size, x.2)) (t + size) := by
    refine (h.shift (d := size)).ext fun u _ _ => ?_
    exact wat_shift u
  rcases hM with ⟨e0, _, _, _, _, hM, _⟩ | ⟨_, _, ⟨hk', _⟩ | ⟨_, hn, _⟩ | ⟨_, _, _, _, _, c, Q, hc, hQ, hq⟩⟩
  · exact ⟨e0, hM.unique hR⟩
  · exact absurd hk hk'
  · exact absurd ⟨by omega, by omega, by omega⟩ hn
  · have := (hQ.short hR hc).1
    rw [List.length_map] at this
    omega
end TabC
end Go.Proofs.Ytgehdpohiphcpaa
