/- What a law is told of a table that is made. -/
import Derived.Test.YtgehdpohiphcpaaTabP
set_option linter.unusedVariables false
namespace Go.Proofs.Ytgehdpohiphcpaa
open Go.RowKit
open SpanM SpanC TabM
namespace TabC
def makE (frame : Int) (l : List Wnt) (er : Int) : Prop := (wchk frame l ≠ 0 ∧ er = wchk frame l) ∨ (wchk frame l = 0 ∧ ¬ Apart (wins frame l) ∧ er = 8)
def MakeP (frame : Int) (l : List Wnt) (s : Int) (ys : List Win) (er : Int) : Prop :=
  (er = 0 ∧ s = frame ∧ wchk frame l = 0 ∧ Apart (wins frame l) ∧ ys.Perm (wins frame l) ∧ tchk frame ys = 0) ∨ (er ≠ 0 ∧ s = 0 ∧ ys = [] ∧ makE frame l er)
theorem make_says (frame : Int) (a : Option Addr) (cap : Nat) (l : List Wnt) (w : World) (hr : Wts w a l) :
    Calls Try.prog 19 #[.int .i64 frame, .slice a l.length cap] w fun e w' => (∃ s a' c ys er, e = .returned (.tuple #[.agg #[.int .i64 s, .slice a' ys.length c], .int .i64 er]) ∧ Wns w' a' ys ∧ ys.length ≤ maxLen ∧ MakeP frame l s ys er) ∧ Below w.heap.size w w' := by
  by_cases hk : wchk frame l = 0
  · refine (make_ok frame a cap l w hr hk).mono ?_
    rintro e w' ⟨⟨hA, v, ys, rfl, ho, hp, ht⟩ | ⟨hA, rfl⟩, hb⟩
    · obtain ⟨s1, s2, s3, s4⟩ := tchk_zero ht
      obtain ⟨a', c, rfl, hw, h1, h2⟩ := ho.wns fun x hx => by
        have := wgood_each s4 x hx
        unfold wfit at this
        omega
      exact ⟨⟨frame, a', c, ys, 0, rfl, hw, Nat.le_trans h1 h2, .inl ⟨rfl, rfl, hk, hA, hp, ht⟩⟩, hb⟩
    · exact ⟨⟨0, none, 0, [], 8, rfl, ⟨by simp, .inl rfl⟩, by simp, .inr ⟨by decide, rfl, rfl, .inr ⟨hk, hA, rfl⟩⟩⟩, hb⟩
  · refine (make_err frame a cap l w hr hk).mono ?_
    rintro e w' ⟨rfl, hb⟩
    exact ⟨⟨0, none, 0, [], _, rfl, ⟨by simp, .inl rfl⟩, by simp, .inr ⟨hk, rfl, rfl, .inl ⟨hk, rfl⟩⟩⟩, hb⟩
/-- where it is known to be right, there is one answer -/
theorem MakeP.ok {frame : Int} {l : List Wnt} {s : Int} {ys : List Win} {er : Int} (h : MakeP frame l s ys er) (hk : wchk frame l = 0) (hA : Apart (wins frame l)) : er = 0 ∧ s = frame ∧ ys.Perm (wins frame l) ∧ tchk frame ys = 0 := by
  rcases h with ⟨h1, h2, _, _, h5, h6⟩ | ⟨_, _, _, ⟨h, _⟩ | ⟨_, h, _⟩⟩
  · exact ⟨h1, h2, h5, h6⟩
  · exact absurd hk h
  · exact absurd hA h
end TabC
end Go.Proofs.Ytgehdpohiphcpaa
