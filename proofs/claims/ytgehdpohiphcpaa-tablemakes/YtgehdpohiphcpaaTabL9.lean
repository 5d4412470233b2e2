/- TableMakes, out of what MadeTable tells. -/
import Derived.Test.YtgehdpohiphcpaaTabL8
set_option linter.unusedVariables false
namespace Go.Proofs.Ytgehdpohiphcpaa
open Go.RowKit
open SpanM SpanC TabM
namespace TabC
theorem MakeP.same {frame : Int} {l : List Wnt} {s s' : Int} {ys ys' : List Win} {er er' : Int} (h : MakeP frame l s ys er) (h' : MakeP frame l s' ys' er') : s = s' ∧ ys = ys' ∧ er = er' := by
  suffices H : s' = s ∧ ys' = ys ∧ er' = er from ⟨H.1.symm, H.2.1.symm, H.2.2.symm⟩
  rcases h with ⟨h1, h2, h3, h4, h5, h6⟩ | ⟨h1, h2, h3, h4⟩
  · obtain ⟨k1, k2, k3, k4⟩ := h'.ok h3 h4
    exact ⟨by rw [k2, h2], good_one (tchk_zero k4).2.2.2 (tchk_zero h6).2.2.2 (k3.trans h5.symm), by rw [k1, h1]⟩
  · rcases h' with ⟨k1, k2, k3, k4, k5, k6⟩ | ⟨k1, k2, k3, k4⟩
    · rcases h4 with ⟨h4, _⟩ | ⟨_, h4, _⟩
      · exact absurd k3 h4
      · exact absurd k4 h4
    · refine ⟨by rw [k2, h2], by rw [k3, h3], ?_⟩
      rcases h4 with ⟨a1, a2⟩ | ⟨a1, a2, a3⟩ <;> rcases k4 with ⟨b1, b2⟩ | ⟨b1, b2, b3⟩
      · rw [a2, b2]
      · exact absurd b1 a1
      · exact absurd a1 b1
      · rw [a3, b3]
/-- what is told of a table that is made -/
def Says (f : Nat) : Prop := ∀ (frame : Int) (a : Option Addr) (cap : Nat) (l : List Wnt) (w : World), Wts w a l →
    Calls Try.prog f #[.int .i64 frame, .slice a l.length cap] w fun e w' => (∃ s a' c ys er, e = .returned (.tuple #[.agg #[.int .i64 s, .slice a' ys.length c], .int .i64 er]) ∧ Wns w' a' ys ∧ ys.length ≤ maxLen ∧ MakeP frame l s ys er) ∧ Below w.heap.size w w'
set_option maxRecDepth 20000 in
set_option maxHeartbeats 3200000 in
theorem tableMakes_run (hm : Says 20) (frame : Int) (a : Option Addr) (cap : Nat) (l : List Wnt) (w : World) (hr : Wts w a l) :
    Calls Try.prog 4 #[.int .i64 frame, .slice a l.length cap] w fun e w' => e = .returned (.bool true) ∧ Below w.heap.size w w' := by
  have HM0 := hid (make_says frame a cap l w hr)
  have HM1 := hid (fun W (h : Below w.heap.size w W) => hm frame a cap l W (hr.below h (Nat.le_refl _)))
  clear hr hm
  go_enter Try.func4, Try.ntmps4
  go_wp2_with fail
  refine HM0.out.mono ?_
  rintro e w1 ⟨⟨s, a1, c1, ys, er, rfl, hw1, hm1, hP⟩, b1⟩
  have CT1 := hid (CellT.new (s := s) (c := c1) hw1 hm1)
  have B1 := hid b1
  have HP := hid hP
  clear hw1 hm1 b1 hP
  go_wp2_with fail
  refine (HM1.out _ (Below.alloc B1.out B1.out.size _)).mono ?_
  rintro e w2 ⟨⟨s', a2, c2, ys', er', rfl, hw2, hm2, hP2⟩, b2⟩
  obtain ⟨e1, e2, e3⟩ := HP.out.same hP2
  subst e1 e2 e3
  have CT2 := hid ((CT1.out.step b2).alloc (.cells #[.int .i64 s, .slice a2 ys.length c2] 24))
  have CT3 := hid (CellT.new (s := s) (c := c2) hw2 hm2)
  have B2 : Hid (Below w.heap.size w w2) := bel_al B1.out B1.out.size b2
  have t0 := CT2.out.c0
  have t1 := CT2.out.c1
  have tl := CT2.out.lt
  have hs := b2.size
  have hww := B2.out.size
  simp only [World.size_alloc] at hs
  have heq : (er == er) = true := by simp
  clear hw2 hm2 b2 hP2
  go_wp2_with fail
  refine (sameT_true CT2.out CT3.out).mono ?_
  rintro e w3 ⟨rfl, b3⟩
  have B3 : Hid (Below w.heap.size w w3) := bel_al B2.out B2.out.size b3
  clear b3
  go_wp2_with fail
  go_ret
  exact ⟨rfl, B3.out⟩
end TabC
end Go.Proofs.Ytgehdpohiphcpaa
