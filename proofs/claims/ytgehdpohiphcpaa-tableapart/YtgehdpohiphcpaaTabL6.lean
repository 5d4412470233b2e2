/- TableApart, whole. -/
import Derived.Test.YtgehdpohiphcpaaTabL4
import Derived.Test.YtgehdpohiphcpaaTabL5
set_option linter.unusedVariables false
namespace Go.Proofs.Ytgehdpohiphcpaa
open Go.RowKit
open SpanM SpanC TabM
namespace TabC
set_option maxHeartbeats 800000 in
theorem tableApart_bad (size : Int) (a : Option Addr) (cap : Nat) (l : List Win) (pa pb t : Int) (w : World) (hr : Wns w a l) (hk : tchk size l ≠ 0) :
    Calls Try.prog 7 #[.agg #[.int .i64 size, .slice a l.length cap], .int .i64 pa, .int .i64 pb, .int .i64 t] w fun e w' => e = .returned (.bool true) ∧ Below w.heap.size w w' := by
  have hc := fun W (h : Below w.heap.size w W) => check_any size a cap l W (hr.below h (Nat.le_refl _))
  have hne : (tchk size l != 0) = true := by simp [hk]
  clear hr hk
  generalize tchk size l = c at hc hne
  have HC := hid hc
  clear hc
  go_enter Try.func7, Try.ntmps7
  go_wp2_with fail
  refine (tlives _).mono ?_
  rintro e w1 ⟨rfl, b1⟩
  have T1 : Hid (TabIn w w1 size (.slice a l.length cap)) := box1 b1
  clear b1
  have c0 : w1.cell? ⟨w.heap.size, 0, none⟩ = some (.int .i64 size) := boxc T1.out 0
  have c1 : w1.cell? ⟨w.heap.size, 1, none⟩ = some (.slice a l.length cap) := boxc T1.out 1
  go_wp2_with fail
  refine (HC.out _ (of_alloc T1.out)).mono ?_
  rintro e w2 ⟨rfl, b2⟩
  have T2 : Hid (TabIn w w2 size (.slice a l.length cap)) := box2 T1.out b2
  clear b2
  go_wp2_with fail
  refine (tlives _).mono ?_
  rintro e w3 ⟨rfl, b3⟩
  go_wp2_with fail
  go_ret
  exact ⟨rfl, bel_of (of_alloc T2.out) b3⟩
theorem tableApart_walk (size : Int) (a : Option Addr) (len cap : Nat) (l : List Win) (pa pb t : Int) (w : World) (xs : wf64 size) (h : IsWns w a len cap l) (w1 : wf64 pa) (w2 : wf64 pb) (w3 : wf64 t) :
    Calls Try.prog 7 #[.agg #[.int .i64 size, .slice a len cap], .int .i64 pa, .int .i64 pb, .int .i64 t] w fun e w' => e = .returned (.bool true) ∧ Below w.heap.size w w' := by
  obtain ⟨rfl, _, _, hr, _⟩ := h
  by_cases hk : tchk size l = 0
  · by_cases ht : 0 ≤ t ∧ t ≤ 1099511627776 <;> by_cases ha : 0 ≤ pa ∧ pa ≤ 15
    · by_cases hb : 0 ≤ pb ∧ pb ≤ 15
      · by_cases hq : pa = pb
        · exact tableApart_ye_g size a cap l pa pb t w hr hk ha.1 ha.2 hb.1 hb.2 hq ht.1 ht.2
        · exact tableApart_yd_g size a cap l pa pb t w hr hk ha.1 ha.2 hb.1 hb.2 hq ht.1 ht.2
      · exact tableApart_yn_g size a cap l pa pb t w hr hk ha.1 ha.2 hb ht.1 ht.2
    · exact tableApart_n_g size a cap l pa pb t w hr hk ha ht.1 ht.2
    · by_cases hb : 0 ≤ pb ∧ pb ≤ 15
      · by_cases hq : pa = pb
        · exact tableApart_ye_n size a cap l pa pb t w hr hk ha.1 ha.2 hb.1 hb.2 hq ht
        · exact tableApart_yd_n size a cap l pa pb t w hr hk ha.1 ha.2 hb.1 hb.2 hq ht
      · exact tableApart_yn_n size a cap l pa pb t w hr hk ha.1 ha.2 hb ht
    · exact tableApart_n_n size a cap l pa pb t w hr hk ha ht
  · exact tableApart_bad size a cap l pa pb t w hr hk
end TabC
end Go.Proofs.Ytgehdpohiphcpaa
