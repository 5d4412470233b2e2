/- tableLives: two owners. -/
import Derived.Test.YtgehdpohiphcpaaTabP
set_option linter.unusedVariables false
namespace Go.Proofs.Ytgehdpohiphcpaa
open Go.RowKit
open SpanM SpanC TabM
namespace TabC
def livesW : List Wnt := [(3, 2, 3, 10), (1, 0, 2, 5)]
def livesT : List Win := [(0, 2, 1), (2, 3, 3), (5, 2, 1)]
theorem lives_perm : (wins 10 livesW).Perm livesT := by decide
theorem lives_make (b : Nat) (w : World) (h : ∀ i v, [Value.int .i64 3, .int .i64 2, .int .i64 3, .int .i64 10, .int .i64 1, .int .i64 0, .int .i64 2, .int .i64 5][i]? = some v → w.cell? ⟨b, i, none⟩ = some v) :
    Calls Try.prog 19 #[.int .i64 10, .slice (some ⟨b, 0, none⟩) 2 2] w fun e w' => (∃ a c, e = .returned (.tuple #[.agg #[.int .i64 10, .slice a 3 c], .int .i64 0]) ∧ Wns w' a livesT) ∧ Below w.heap.size w w' := by
  have hs : Wts w (some ⟨b, 0, none⟩) livesW := by
    refine .inr ⟨b, 0, rfl, fun i hi => ?_⟩
    match i, hi with
    | 0, _ => exact ⟨h 0 _ rfl, h 1 _ rfl, h 2 _ rfl, h 3 _ rfl⟩
    | 1, _ => exact ⟨h 4 _ rfl, h 5 _ rfl, h 6 _ rfl, h 7 _ rfl⟩
  have hg : wgood 10 0 livesT = true := by decide
  refine (make_ok 10 (some ⟨b, 0, none⟩) 2 livesW w hs (by decide)).mono ?_
  rintro e w' ⟨⟨_, v, ys, rfl, ho, hp, ht⟩ | ⟨hA, _⟩, hb⟩
  · have hy : ys = livesT := good_one (tchk_zero ht).2.2.2 hg (hp.trans lives_perm)
    subst hy
    obtain ⟨a, c, rfl, hw, _⟩ := ho.wns (by decide)
    exact ⟨⟨a, c, rfl, hw⟩, hb⟩
  · exact absurd ((wgood_apart hg).perm lives_perm.symm) hA
theorem lives_chk : tchk 10 livesT = 0 := by decide
set_option maxHeartbeats 800000 in
theorem tlives (w : World) :
    Calls Try.prog 33 #[] w fun e w' => e = .returned (.bool true) ∧ Below w.heap.size w w' := by
  go_enter Try.func33, Try.ntmps33
  go_wp2_with fail
  refine (lives_make w.heap.size _ ?_).mono ?_
  · intro i v hi
    rw [World.cell?_alloc_at _ _ _ _ rfl]
    simpa using hi
  rintro e w1 ⟨⟨a, c, rfl, hs⟩, b1⟩
  have HB1 := hid (of_alloc (box1 b1))
  have HS := hid hs
  clear b1 hs
  have h2 := hid (fun W (h : Below w1.heap.size w1 W) => owner_ok 10 16 a c livesT W (HS.out.below h (Nat.le_refl _)) lives_chk (by omega) (by omega))
  have h3 := hid (fun W (h : Below w1.heap.size w1 W) => owner_ok 10 22 a c livesT W (HS.out.below h (Nat.le_refl _)) lives_chk (by omega) (by omega))
  have e2 : wown livesT (16 % 10) = 1 := by decide
  have e3 : wown livesT (22 % 10) = 3 := by decide
  have e4 : livesT.length = 3 := rfl
  rw [e2, e4] at h2
  rw [e3, e4] at h3
  clear e2 e3 e4
  go_wp2_with fail
  refine (h2.out _ (by go_grown)).mono ?_
  rintro e w2 ⟨rfl, b2⟩
  have HC2 : Hid (Below (w1.heap.size + 1) (w1.alloc (.cells #[.int .i64 10, .slice a 3 c] 24)) w2) := box1 b2
  clear b2
  have c1 : w2.cell? ⟨w1.heap.size, 0, none⟩ = some (.int .i64 10) := boxc HC2.out 0
  have c2 : w2.cell? ⟨w1.heap.size, 1, none⟩ = some (.slice a 3 c) := boxc HC2.out 1
  go_wp2_with fail
  refine (h3.out _ (of_alloc HC2.out)).mono ?_
  rintro e w3 ⟨rfl, b3⟩
  have HC3 : Hid (Below (w1.heap.size + 1) (w1.alloc (.cells #[.int .i64 10, .slice a 3 c] 24)) w3) := box2 HC2.out b3
  clear b3 c1 c2
  have c1 : w3.cell? ⟨w1.heap.size, 0, none⟩ = some (.int .i64 10) := boxc HC3.out 0
  have c2 : w3.cell? ⟨w1.heap.size, 1, none⟩ = some (.slice a 3 c) := boxc HC3.out 1
  go_wp2_with fail
  go_ret
  exact ⟨by first | rfl | simp, bel_of HB1.out (of_alloc HC3.out)⟩
end TabC
end Go.Proofs.Ytgehdpohiphcpaa
