/- The walk of SupplyDual. -/
import Derived.Test.YtepnlfnnancnfaaSupL
import Derived.Test.YtepnlfnnancnfaaSpanN
set_option linter.unusedVariables false
namespace Go.Proofs.Ytepnlfnnancnfaa
open Go.RowKit
open SpanM SupM
namespace SpanC
/-- what Not tells -/
theorem not_says (size : Int) (a : Option Addr) (cap : Nat) (l : List Sp) (w : World) (hr : Sps w a l) :
    Calls Try.prog 26 #[.agg #[.int .i64 size, .slice a l.length cap]] w fun e w' => (∃ sx ax cx rx ex, e = .returned (.tuple #[.agg #[.int .i64 sx, .slice ax rx.length cx], .int .i64 ex]) ∧ Sps w' ax rx ∧ (ex = 0 → sx = size ∧ chk size l = 0 ∧ chk size rx = 0 ∧ ∀ u, 0 ≤ u → u < size → mem rx u = !mem l u)) ∧ Below w.heap.size w w' := by
  by_cases hk : chk size l = 0
  · obtain ⟨s1, s2, s3, s4⟩ := chk_zero hk
    refine (not_ok size a cap l w hr hk).mono ?_
    rintro e w' ⟨h, hb⟩
    obtain ⟨g1, g2⟩ := notE_good (e := 0) (size := size) (l := l) (by simpa using s4)
    refine ⟨?_, hb⟩
    rcases h with ⟨h1, v, rfl, ho⟩ | ⟨h1, rfl⟩
    · obtain ⟨ax, cx, rfl, hs, _, _⟩ := ho.sps
      refine ⟨size, ax, cx, notE size 0 l, 0, rfl, hs, fun _ => ⟨rfl, hk, chk_of s1 s2 h1 (by simpa using g1), fun u u1 u2 => ?_⟩⟩
      rw [g2 u, decide_eq_true ⟨u1, u2⟩]; simp
    · exact ⟨0, none, 0, [], 2, rfl, .inl rfl, fun h => by omega⟩
  · refine (not_err size a cap l w hr hk).mono ?_
    rintro e w' ⟨rfl, hb⟩
    exact ⟨⟨0, none, 0, [], chk size l, rfl, .inl rfl, fun h => absurd h hk⟩, hb⟩
set_option maxHeartbeats 1000000 in
theorem supplyDual_walk (size : Int) (a : Option Addr) (len cap : Nat) (l : List Sp) (n : Int) (w : World) (hs : wf64 size) (h : IsSps w a len cap l) (hn : wf64 n) :
    Calls Try.prog 8 #[.agg #[.int .i64 size, .slice a len cap], .int .i64 n] w fun e w' => e = .returned (.bool true) ∧ Below w.heap.size w w' := by
  obtain ⟨rfl, h1, h2, hr, _, _⟩ := h
  have H0 := hid (fun W (h : Below w.heap.size w W) => not_says size a cap l W (hr.below h (Nat.le_refl _)))
  have H1 := hid (fun W (h : Below w.heap.size w W) => least_any size n a cap l W (hr.below h (Nat.le_refl _)))
  clear hr h1 h2
  go_enter Try.func8, Try.ntmps8
  go_wp2_with fail
  refine (H0.out _ (by go_grown)).mono ?_
  rintro e w1 ⟨⟨sx, ax, cx, rx, ex, rfl, hsx, hx⟩, b⟩
  have HB1 : Hid (Below (w.heap.size + 1) (w.alloc (.cells #[.int .i64 size, .slice a l.length cap] 24)) w1) := box1 b
  have HX := hid hx
  have HSX := hid hsx
  clear b hx hsx
  have c1 : w1.cell? ⟨w.heap.size, 0, none⟩ = some (.int .i64 size) := boxc HB1.out 0
  have c2 : w1.cell? ⟨w.heap.size, 1, none⟩ = some (.slice a l.length cap) := boxc HB1.out 1
  have hlt : w.heap.size < w1.heap.size := World.block_lt_of_cell? _ _ c1
  have H2 := hid (fun W (h : Below w1.heap.size w1 W) => most_any sx n ax cx rx W (HSX.out.below h (Nat.le_refl _)))
  go_wp2_with fail
  have hal : Below w1.heap.size w1 (w1.alloc (.cells #[.int .i64 sx, .slice ax rx.length cx] 24)) := (Below.refl _ _).alloc (Nat.le_refl _) _
  have x1 : (w1.alloc (.cells #[.int .i64 sx, .slice ax rx.length cx] 24)).cell? ⟨w1.heap.size, 0, none⟩ = some (.int .i64 sx) := World.cell?_alloc_at _ _ _ _ rfl
  have x2 : (w1.alloc (.cells #[.int .i64 sx, .slice ax rx.length cx] 24)).cell? ⟨w1.heap.size, 1, none⟩ = some (.slice ax rx.length cx) := World.cell?_alloc_at _ _ _ _ rfl
  obtain ⟨X, hX⟩ : ∃ X, X = w1.heap.size := ⟨_, rfl⟩
  rw [← hX] at x1 x2 ⊢
  generalize w1.alloc (.cells #[.int .i64 sx, .slice ax rx.length cx] 24) = V at *
  have HV := hid hal
  have HVw := hid (bel_of (of_alloc HB1.out) hal)
  clear c1 c2 hal hX hlt
  refine (H1.out _ HVw.out).mono ?_
  rintro e w2 ⟨rfl, b⟩
  have y1 := (b.cell (World.block_lt_of_cell? _ _ x1)).trans x1
  have y2 := (b.cell (World.block_lt_of_cell? _ _ x2)).trans x2
  have HV2 := hid (bel_of HV.out b)
  have HW2 := hid (bel_of HVw.out b)
  clear x1 x2 b
  by_cases hq : ex = 0 ∧ leastE size l n = 0
  · obtain ⟨rfl, hl⟩ := hq
    obtain ⟨rfl, hk, hkx, hm⟩ := HX.out rfl
    obtain ⟨_, n1, n2⟩ := least_zero hl
    obtain ⟨s1, s2, s3, s4⟩ := chk_zero hk
    have hl2 : leastE sx rx n = 0 := sE_of hkx n1 n2
    have hsum := (leastV_P hl).dual s1 s4 (chk_zero hkx).2.2.2 hm n1 (mostV_P hl2)
    have p3 := (leastV_P hl).bd s1 s4 n1
    have p4 := (mostV_P hl2).bd s1 (chk_zero hkx).2.2.2 n1
    rw [hl2] at H2
    clear HX H0 H1 hk hkx hm s4
    rw [hl]
    clear hl hl2
    generalize leastV sx l n = A at *
    generalize mostV sx rx n = M at *
    obtain ⟨p5, p6⟩ := p3
    obtain ⟨p7, p8⟩ := p4
    have hb : (A + M == n) = true := by rw [beq_iff_eq]; exact hsum
    clear hsum
    go_wp2_with fail
    refine (H2.out _ HV2.out).mono ?_
    rintro e w3 ⟨rfl, b⟩
    have HW3 := hid (bel_of HW2.out b)
    clear b
    go_wp2_with fail
    refine (slives _).mono ?_
    rintro e w4 ⟨rfl, b⟩
    have HW4 := hid (bel_of HW3.out b)
    clear b
    go_wp2_with fail
    go_ret
    exact ⟨by first | rfl | simp, HW4.out⟩
  · have D : (ex != 0) = true ∨ (ex = 0 ∧ (leastE size l n != 0) = true) := by
      by_cases h : ex = 0
      · right; exact ⟨h, by simp; intro h2; exact hq ⟨h, h2⟩⟩
      · left; simp [h]
    clear hq HX H0 H1
    generalize leastV size l n = A at *
    generalize leastE size l n = E at *
    generalize mostV sx rx n = M at *
    generalize leastE sx rx n = E2 at *
    rcases D with d | ⟨rfl, d⟩
    all_goals
      go_wp2_with fail
      refine (H2.out _ HV2.out).mono ?_
      rintro e w3 ⟨rfl, b⟩
      have HW3 := hid (bel_of HW2.out b)
      clear b
      go_wp2_with fail
      refine (slives _).mono ?_
      rintro e w4 ⟨rfl, b⟩
      have HW4 := hid (bel_of HW3.out b)
      clear b
      go_wp2_with fail
      refine (slives _).mono ?_
      rintro e w5 ⟨rfl, b⟩
      have HW5 := hid (bel_of HW4.out b)
      clear b
      go_wp2_with fail
      go_ret
      exact ⟨by first | rfl | simp, HW5.out⟩
end SpanC
end Go.Proofs.Ytepnlfnnancnfaa
