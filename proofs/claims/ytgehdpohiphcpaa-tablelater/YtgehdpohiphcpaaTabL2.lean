/- TableLater. -/
import Derived.Test.YtgehdpohiphcpaaTabQ
import Derived.Test.YtgehdpohiphcpaaTabZ
import Derived.Test.YtgehdpohiphcpaaTabO
import Derived.Test.YtgehdpohiphcpaaTabL0
import Derived.Laws.StructEq
set_option linter.unusedVariables false
namespace Go.Proofs.Ytgehdpohiphcpaa
open Go.RowKit
open SpanM SpanC TabM
namespace TabC
set_option maxRecDepth 20000 in
set_option maxHeartbeats 1600000 in
theorem tableLater_run (size : Int) (a : Option Addr) (cap : Nat) (l : List Win) (f t : Int) (w : World) (hr : Wns w a l) (wt1 : -9223372036854775808 ≤ size) (wt2 : size ≤ 9223372036854775807) :
    Calls Try.prog 10 #[.agg #[.int .i64 size, .slice a l.length cap], .int .i64 f, .int .i64 t] w fun e w' => e = .returned (.bool true) ∧ Below w.heap.size w w' := by
  have HT := hid (fun f t W (h : Below w.heap.size w W) => turns_says size f t a cap l W (hr.below h (Nat.le_refl _)))
  clear hr
  go_enter Try.func10, Try.ntmps10
  go_wp2_with fail
  refine (HT.out _ _ _ (by go_grown)).mono ?_
  rintro e w1 ⟨⟨a1, n1, L, er, rfl, hw1, hm1, hP⟩, b1⟩
  have T1 : Hid (TabIn w w1 size (.slice a l.length cap)) := box1 b1
  have W1 := hid hw1
  clear b1 hw1
  go_wp2_with fail
  refine (tlives w1).mono ?_
  rintro e w2 ⟨rfl, b2⟩
  have T2 : Hid (TabIn w w2 size (.slice a l.length cap)) := box2 T1.out b2
  have W2 := hid (W1.out.below b2 (Nat.le_refl _))
  clear b2
  rcases hP with ⟨rfl, hk, h1, h2, h3, hR, hL⟩ | ⟨rfl, hne, _⟩
  · obtain ⟨s1, s2, _, _⟩ := tchk_zero hk
    have c0 : w2.cell? ⟨w.heap.size, 0, none⟩ = some (.int .i64 size) := boxc T2.out 0
    have c1 : w2.cell? ⟨w.heap.size, 1, none⟩ = some (.slice a l.length cap) := boxc T2.out 1
    have HR := hid hR
    have HK := hid hk
    clear hR hk
    by_cases hlt : 1099511627776 - size < t
    · go_wp2_with fail
      refine (tlives w2).mono ?_
      rintro e w3 ⟨rfl, b3⟩
      go_wp2_with fail
      go_ret
      exact ⟨rfl, bel_of (of_alloc T2.out) b3⟩
    · go_wp2_with fail
      refine (HT.out _ _ _ (of_alloc T2.out)).mono ?_
      rintro e w3 ⟨⟨a3, n3, M, er, rfl, hw3, hm3, hP⟩, b3⟩
      obtain ⟨rfl, hM⟩ := turnsP_later HR.out hL HK.out h1 h2 (by omega) hP
      have T3 : Hid (TabIn w w3 size (.slice a l.length cap)) := box2 T2.out b3
      have W3 := hid (W2.out.below b3 (Nat.le_refl _))
      have M3 := hid hw3
      have hml : M.length = L.length := by rw [hM, List.length_map]
      have hmi : ∀ k, k < L.length → M.getD k z3 = ((L.getD k z3).1 + size, (L.getD k z3).2) := by
        intro k hk
        rw [hM]
        simp [List.getD, hk]
      have HMI := hid hmi
      have hLx : ∀ x ∈ L, x.1 ≤ 1099511627776 ∧ 0 ≤ x.1 := fun x hx => by
        obtain ⟨q1, q2, q3, _⟩ := HR.out.each x hx
        omega
      have HLX := hid hLx
      have HML := hid hml
      have c0 : w3.cell? ⟨w.heap.size, 0, none⟩ = some (.int .i64 size) := boxc T3.out 0
      have hne0 : ((L.length : Int) != (M.length : Int)) = false := by rw [hml]; simp
      clear b3 hw3 hP hM hmi hLx hml
      go_wp2_with fail
      go_loopw [58] (fun v58 wr => ∃ k : Nat, k ≤ L.length ∧ v58 = .int .i64 k ∧ Below w3.heap.size w3 wr) (fun v58 _ => L.length - (intOf v58).toNat)
      case atStart => exact ⟨0, by omega, rfl, Below.refl _ _⟩
      case round =>
        obtain ⟨k, hk, rfl, hb⟩ := hrel
        have HB := hid hb
        have hsz := hb.size
        have z3' : w.heap.size < w3.heap.size := by have := T3.out.size; simp at this; omega
        by_cases hkl : k < L.length
        · obtain ⟨b, off, rfl, hbw, d1, d2, d3⟩ := (W3.out.below hb (Nat.le_refl _)).at k hkl
          obtain ⟨b', off', rfl, hbw', e1, e2, e3⟩ := (M3.out.below hb (Nat.le_refl _)).at k (by rw [HML.out]; exact hkl)
          have c0' := (hb.cell (p := ⟨w.heap.size, 0, none⟩) z3').trans c0
          have hx := HLX.out (L.getD k z3) (by simp [List.getD, hkl])
          have hmk := HMI.out k hkl
          rw [hmk] at e1 e2 e3
          generalize L.getD k z3 = z at d1 d2 d3 e1 e2 e3 hx
          obtain ⟨x1, x2, x3⟩ := z
          simp only at d1 d2 d3 e1 e2 e3 hx
          have z5 : w.heap.size < wr.heap.size := by omega
          have hkm : (k : Int) < (M.length : Int) := by have := HML.out; omega
          have hkm2 : k < M.length := by omega
          clear hb hmk
          go_wp2_with fail
          go_quiet (fail)
          go_wp2_with fail
          go_roundw
          case rel => exact ⟨k + 1, by omega, by go_num, below_drewN (by have := HB.out; go_grown) _⟩
          case measure => simp [intOf]; omega
        · go_wp2_with fail
          go_ret
          exact ⟨rfl, (of_alloc T3.out).trans (HB.out.mono (by omega))⟩
  · have hne2 : (er != 0) = true := by simp [hne]
    go_wp2_with fail
    refine (tlives w2).mono ?_
    rintro e w3 ⟨rfl, b3⟩
    go_wp2_with fail
    go_ret
    exact ⟨rfl, bel_of (of_alloc T2.out) b3⟩
theorem tableLater_walk (size : Int) (a : Option Addr) (len cap : Nat) (l : List Win) (f t : Int) (w : World) (xs : wf64 size) (h : IsWns w a len cap l) (wt : wf64 f) (wo : wf64 t) :
    Calls Try.prog 10 #[.agg #[.int .i64 size, .slice a len cap], .int .i64 f, .int .i64 t] w fun e w' => e = .returned (.bool true) ∧ Below w.heap.size w w' := by
  obtain ⟨rfl, _, _, hr, _⟩ := h
  exact tableLater_run size a cap l f t w hr xs.1 xs.2
end TabC
end Go.Proofs.Ytgehdpohiphcpaa
