/- The walk of SupplyFrom. -/
import Derived.Test.YtepnlfnnancnfaaSupL
set_option linter.unusedVariables false
namespace Go.Proofs.Ytepnlfnnancnfaa
open Go.RowKit
open SpanM SupM
namespace SpanC
set_option maxHeartbeats 1000000 in
theorem from_e (size t k : Int) (a : Option Addr) (cap : Nat) (l : List Sp) (w : World) (hr : Sps w a l) (he : fromE size l t k ≠ 0) :
    Calls Try.prog 10 #[.agg #[.int .i64 size, .slice a l.length cap], .int .i64 t, .int .i64 k] w fun e w' => e = .returned (.bool true) ∧ Below w.heap.size w w' := by
  have H1 := hid (fun W (h : Below w.heap.size w W) => from_any size t k a cap l W (hr.below h (Nat.le_refl _)))
  have H2 := hid (fun W (h : Below w.heap.size w W) => wait_any size k a cap l W (hr.below h (Nat.le_refl _)))
  have hne : (fromE size l t k != 0) = true := by simp [he]
  have hne2 : (fromE size l t k == 0) = false := by simp [he]
  rw [fromV_err he] at H1
  clear he hr
  generalize fromE size l t k = E at *
  generalize waitV size l k = V at *
  generalize waitE size l k = E2 at *
  go_enter Try.func10, Try.ntmps10
  go_wp2_with fail
  refine (H1.out _ (by go_grown)).mono ?_
  rintro e w1 ⟨rfl, b⟩
  have HB1 : Hid (Below (w.heap.size + 1) (w.alloc (.cells #[.int .i64 size, .slice a l.length cap] 24)) w1) := box1 b
  clear b
  have c1 : w1.cell? ⟨w.heap.size, 0, none⟩ = some (.int .i64 size) := boxc HB1.out 0
  have c2 : w1.cell? ⟨w.heap.size, 1, none⟩ = some (.slice a l.length cap) := boxc HB1.out 1
  go_wp2_with fail
  refine (H2.out _ (of_alloc HB1.out)).mono ?_
  rintro e w2 ⟨rfl, b⟩
  have HB2 : Hid (Below (w.heap.size + 1) (w.alloc (.cells #[.int .i64 size, .slice a l.length cap] 24)) w2) := box2 HB1.out b
  clear b c1 c2
  have c1 : w2.cell? ⟨w.heap.size, 0, none⟩ = some (.int .i64 size) := boxc HB2.out 0
  have c2 : w2.cell? ⟨w.heap.size, 1, none⟩ = some (.slice a l.length cap) := boxc HB2.out 1
  go_wp2_with fail
  refine ((fun (_ : Below w.heap.size w _) => slives _) (of_alloc HB2.out)).mono ?_
  rintro e w3 ⟨rfl, b⟩
  have HB3 : Hid (Below (w.heap.size + 1) (w.alloc (.cells #[.int .i64 size, .slice a l.length cap] 24)) w3) := box2 HB2.out b
  clear b c1 c2
  have c1 : w3.cell? ⟨w.heap.size, 0, none⟩ = some (.int .i64 size) := boxc HB3.out 0
  have c2 : w3.cell? ⟨w.heap.size, 1, none⟩ = some (.slice a l.length cap) := boxc HB3.out 1
  go_wp2_with fail
  refine ((fun (_ : Below w.heap.size w _) => slives _) (of_alloc HB3.out)).mono ?_
  rintro e w4 ⟨rfl, b⟩
  have HB4 : Hid (Below (w.heap.size + 1) (w.alloc (.cells #[.int .i64 size, .slice a l.length cap] 24)) w4) := box2 HB3.out b
  clear b c1 c2
  have c1 : w4.cell? ⟨w.heap.size, 0, none⟩ = some (.int .i64 size) := boxc HB4.out 0
  have c2 : w4.cell? ⟨w.heap.size, 1, none⟩ = some (.slice a l.length cap) := boxc HB4.out 1
  go_wp2_with fail
  go_ret
  exact ⟨by first | rfl | simp, of_alloc HB4.out⟩
set_option maxHeartbeats 1000000 in
theorem from_A (size t k N V : Int) (M : Int → Int) (a : Option Addr) (cap : Nat) (l : List Sp) (w : World) (hr : Sps w a l) (hk : chk size l = 0) (t1 : 0 ≤ t) (t2 : t ≤ 1000000) (k1 : 0 ≤ k) (k2 : k ≤ 1000000) (n1 : 0 ≤ N) (n2 : N ≤ 4000000000000)
    (H1 : Hid (∀ W, Below w.heap.size w W → Calls Try.prog 18 #[.agg #[.int .i64 size, .slice a l.length cap], .int .i64 t, .int .i64 k] W fun e w' => e = .returned (.tuple #[.int .i64 N, .int .i64 0]) ∧ Below W.heap.size W w'))
    (H2 : Hid (∀ W, Below w.heap.size w W → Calls Try.prog 17 #[.agg #[.int .i64 size, .slice a l.length cap], .int .i64 k] W fun e w' => e = .returned (.tuple #[.int .i64 V, .int .i64 0]) ∧ Below W.heap.size W w'))
    (HF : Hid (∀ u, 0 ≤ u → u ≤ 1000000 → ∀ W, Below w.heap.size w W → Calls Try.prog 18 #[.agg #[.int .i64 size, .slice a l.length cap], .int .i64 u, .int .i64 k] W fun e w' => e = .returned (.tuple #[.int .i64 (M u), .int .i64 0]) ∧ Below W.heap.size W w'))
    (HT : Hid ((true || l.any (fun x => M x.2 == V)) = true)) (hNV : N ≤ V) (hk0 : k = 0) (hN0 : N = 0) :
    Calls Try.prog 10 #[.agg #[.int .i64 size, .slice a l.length cap], .int .i64 t, .int .i64 k] w fun e w' => e = .returned (.bool true) ∧ Below w.heap.size w w' := by
  obtain ⟨s1, s2, s3, s4⟩ := chk_zero hk
  have HG := hid (good_each s4)
  have HR := hid hr
  have H3 := hid (fun W (h : Below w.heap.size w W) => count_ok size t t a cap l W (hr.below h (Nat.le_refl _)) hk t1 (by omega) (by omega))
  rw [Int.sub_self] at H3
  clear hr hk s4
  subst hk0
  subst hN0
  go_enter Try.func10, Try.ntmps10
  go_wp2_with fail
  refine (H1.out _ (by go_grown)).mono ?_
  rintro e w1 ⟨rfl, b⟩
  have HB1 : Hid (Below (w.heap.size + 1) (w.alloc (.cells #[.int .i64 size, .slice a l.length cap] 24)) w1) := box1 b
  clear b
  have c1 : w1.cell? ⟨w.heap.size, 0, none⟩ = some (.int .i64 size) := boxc HB1.out 0
  have c2 : w1.cell? ⟨w.heap.size, 1, none⟩ = some (.slice a l.length cap) := boxc HB1.out 1
  go_wp2_with fail
  refine (H2.out _ (of_alloc HB1.out)).mono ?_
  rintro e w2 ⟨rfl, b⟩
  have HB2 : Hid (Below (w.heap.size + 1) (w.alloc (.cells #[.int .i64 size, .slice a l.length cap] 24)) w2) := box2 HB1.out b
  clear b c1 c2
  have c1 : w2.cell? ⟨w.heap.size, 0, none⟩ = some (.int .i64 size) := boxc HB2.out 0
  have c2 : w2.cell? ⟨w.heap.size, 1, none⟩ = some (.slice a l.length cap) := boxc HB2.out 1
  go_wp2_with fail
  refine ((fun (_ : Below w.heap.size w _) => slives _) (of_alloc HB2.out)).mono ?_
  rintro e w3 ⟨rfl, b⟩
  have HB3 : Hid (Below (w.heap.size + 1) (w.alloc (.cells #[.int .i64 size, .slice a l.length cap] 24)) w3) := box2 HB2.out b
  clear b c1 c2
  have c1 : w3.cell? ⟨w.heap.size, 0, none⟩ = some (.int .i64 size) := boxc HB3.out 0
  have c2 : w3.cell? ⟨w.heap.size, 1, none⟩ = some (.slice a l.length cap) := boxc HB3.out 1
  go_wp2_with fail
  refine (H3.out _ (of_alloc HB3.out)).mono ?_
  rintro e w4 ⟨rfl, b⟩
  have HB4 : Hid (Below (w.heap.size + 1) (w.alloc (.cells #[.int .i64 size, .slice a l.length cap] 24)) w4) := box2 HB3.out b
  clear b c1 c2
  have c1 : w4.cell? ⟨w.heap.size, 0, none⟩ = some (.int .i64 size) := boxc HB4.out 0
  have c2 : w4.cell? ⟨w.heap.size, 1, none⟩ = some (.slice a l.length cap) := boxc HB4.out 1
  go_wp2_with fail
  clear c1 c2
  go_loopw [15, 103] (fun vw vi wr => ∃ k' : Nat, k' ≤ l.length ∧ vi = .int .i64 k' ∧ (∃ b : Bool, vw = .bool b ∧ Hid ((true || (l.take k').any (fun x => M x.2 == V)) = b)) ∧ Below (w.heap.size + 1) (w.alloc (.cells #[.int .i64 size, .slice a l.length cap] 24)) wr) (fun _ vi _ => l.length - (intOf vi).toNat)
  case atStart => exact ⟨0, by omega, rfl, ⟨_, rfl, by show _ = _; simp⟩, HB4.out⟩
  case round =>
    obtain ⟨k', hk', rfl, ⟨b, rfl, HI⟩, hb⟩ := hrel
    have hB := hid hb
    have c1 : wr.cell? ⟨w.heap.size, 0, none⟩ = some (.int .i64 size) := boxc hb 0
    have c2 : wr.cell? ⟨w.heap.size, 1, none⟩ = some (.slice a l.length cap) := boxc hb 1
    have hlt0 : w.heap.size < wr.heap.size := World.block_lt_of_cell? _ _ c1
    by_cases hlt : k' < l.length
    · obtain ⟨bb, off, rfl, hbw, d1, d2⟩ := HR.out.get hb k' hlt
      have hd := take_snoc l k' hlt
      obtain ⟨g3, g4, g5⟩ := HG.out (l.getD k' (0, 0)) (by simp [List.getD, hlt])
      generalize l.getD k' (0, 0) = z at d1 d2 hd g3 g4 g5
      obtain ⟨f, e⟩ := z
      simp only at d1 d2 g3 g4 g5
      have HN : Hid ((true || (l.take (k' + 1)).any (fun x => M x.2 == V)) = (b || M e == V)) := by
        show _ = _
        rw [hd, List.any_append, ← Bool.or_assoc, HI.out]; simp
      have HFx := hid (HF.out e (by omega) (by omega))
      have hbw2 : bb < wr.heap.size := by omega
      clear hd HI hb
      generalize M e = Me at *
      generalize hmv : (Me == V) = mv at *
      go_wp2_with fail
      refine (HFx.out _ (Below.alloc (of_alloc hB.out) (by omega) _)).mono ?_
      rintro e5 w5 ⟨rfl, b5⟩
      have hB5 := hid ((Below.alloc hB.out (by omega) _).trans (b5.mono (by simp; omega)))
      clear b5 c1 c2
      cases b
      all_goals
        go_wp2_with fail
        go_roundw
        case rel => exact ⟨k' + 1, by omega, by go_num, ⟨_, rfl, by first | exact HN | (show _ = _; rw [HN.out]; simp_all)⟩, hB5.out⟩
        case measure => simp [intOf]; omega
    · obtain rfl : k' = l.length := by omega
      rw [List.take_length, HT.out] at HI
      have hI : true = b := HI.out
      subst hI
      go_wp2_with fail
      go_ret
      exact ⟨rfl, of_alloc hB.out⟩
set_option maxHeartbeats 1000000 in
theorem from_B (size t k N V : Int) (M : Int → Int) (a : Option Addr) (cap : Nat) (l : List Sp) (w : World) (hr : Sps w a l) (hk : chk size l = 0) (t1 : 0 ≤ t) (t2 : t ≤ 1000000) (k1 : 0 ≤ k) (k2 : k ≤ 1000000) (n1 : 0 ≤ N) (n2 : N ≤ 4000000000000)
    (H1 : Hid (∀ W, Below w.heap.size w W → Calls Try.prog 18 #[.agg #[.int .i64 size, .slice a l.length cap], .int .i64 t, .int .i64 k] W fun e w' => e = .returned (.tuple #[.int .i64 N, .int .i64 0]) ∧ Below W.heap.size W w'))
    (H2 : Hid (∀ W, Below w.heap.size w W → Calls Try.prog 17 #[.agg #[.int .i64 size, .slice a l.length cap], .int .i64 k] W fun e w' => e = .returned (.tuple #[.int .i64 V, .int .i64 0]) ∧ Below W.heap.size W w'))
    (HF : Hid (∀ u, 0 ≤ u → u ≤ 1000000 → ∀ W, Below w.heap.size w W → Calls Try.prog 18 #[.agg #[.int .i64 size, .slice a l.length cap], .int .i64 u, .int .i64 k] W fun e w' => e = .returned (.tuple #[.int .i64 (M u), .int .i64 0]) ∧ Below W.heap.size W w'))
    (b0e : (k == 0) = false) (HT : Hid ((false || l.any (fun x => M x.2 == V)) = true)) (hNV : N ≤ V) (hk0 : 1 ≤ k) (hN0 : 1 ≤ N) (hC : cb size l (t + N) - cb size l t = k) (hm : mem l ((t + N - 1) % size) = true) (hg : t + N ≤ 1099511627776) :
    Calls Try.prog 10 #[.agg #[.int .i64 size, .slice a l.length cap], .int .i64 t, .int .i64 k] w fun e w' => e = .returned (.bool true) ∧ Below w.heap.size w w' := by
  obtain ⟨s1, s2, s3, s4⟩ := chk_zero hk
  have HG := hid (good_each s4)
  have HR := hid hr
  have H3 := hid (fun W (h : Below w.heap.size w W) => count_ok size t (t + N) a cap l W (hr.below h (Nat.le_refl _)) hk t1 (by omega) (by omega))
  rw [hC] at H3
  have H4 := hid (fun W (h : Below w.heap.size w W) => has_ok size (t + N - 1) a cap l W (hr.below h (Nat.le_refl _)) hk (by omega) (by omega))
  rw [hm] at H4
  clear hr hk s4 hC hm
  go_enter Try.func10, Try.ntmps10
  go_wp2_with fail
  refine (H1.out _ (by go_grown)).mono ?_
  rintro e w1 ⟨rfl, b⟩
  have HB1 : Hid (Below (w.heap.size + 1) (w.alloc (.cells #[.int .i64 size, .slice a l.length cap] 24)) w1) := box1 b
  clear b
  have c1 : w1.cell? ⟨w.heap.size, 0, none⟩ = some (.int .i64 size) := boxc HB1.out 0
  have c2 : w1.cell? ⟨w.heap.size, 1, none⟩ = some (.slice a l.length cap) := boxc HB1.out 1
  go_wp2_with fail
  refine (H2.out _ (of_alloc HB1.out)).mono ?_
  rintro e w2 ⟨rfl, b⟩
  have HB2 : Hid (Below (w.heap.size + 1) (w.alloc (.cells #[.int .i64 size, .slice a l.length cap] 24)) w2) := box2 HB1.out b
  clear b c1 c2
  have c1 : w2.cell? ⟨w.heap.size, 0, none⟩ = some (.int .i64 size) := boxc HB2.out 0
  have c2 : w2.cell? ⟨w.heap.size, 1, none⟩ = some (.slice a l.length cap) := boxc HB2.out 1
  go_wp2_with fail
  refine ((fun (_ : Below w.heap.size w _) => slives _) (of_alloc HB2.out)).mono ?_
  rintro e w3 ⟨rfl, b⟩
  have HB3 : Hid (Below (w.heap.size + 1) (w.alloc (.cells #[.int .i64 size, .slice a l.length cap] 24)) w3) := box2 HB2.out b
  clear b c1 c2
  have c1 : w3.cell? ⟨w.heap.size, 0, none⟩ = some (.int .i64 size) := boxc HB3.out 0
  have c2 : w3.cell? ⟨w.heap.size, 1, none⟩ = some (.slice a l.length cap) := boxc HB3.out 1
  go_wp2_with fail
  refine (H3.out _ (of_alloc HB3.out)).mono ?_
  rintro e w4 ⟨rfl, b⟩
  have HB4 : Hid (Below (w.heap.size + 1) (w.alloc (.cells #[.int .i64 size, .slice a l.length cap] 24)) w4) := box2 HB3.out b
  clear b c1 c2
  have c1 : w4.cell? ⟨w.heap.size, 0, none⟩ = some (.int .i64 size) := boxc HB4.out 0
  have c2 : w4.cell? ⟨w.heap.size, 1, none⟩ = some (.slice a l.length cap) := boxc HB4.out 1
  go_wp2_with fail
  refine (H4.out _ (of_alloc HB4.out)).mono ?_
  rintro e w5 ⟨rfl, b⟩
  have HB5 : Hid (Below (w.heap.size + 1) (w.alloc (.cells #[.int .i64 size, .slice a l.length cap] 24)) w5) := box2 HB4.out b
  clear b c1 c2
  have c1 : w5.cell? ⟨w.heap.size, 0, none⟩ = some (.int .i64 size) := boxc HB5.out 0
  have c2 : w5.cell? ⟨w.heap.size, 1, none⟩ = some (.slice a l.length cap) := boxc HB5.out 1
  go_wp2_with fail
  clear c1 c2
  go_loopw [15, 103] (fun vw vi wr => ∃ k' : Nat, k' ≤ l.length ∧ vi = .int .i64 k' ∧ (∃ b : Bool, vw = .bool b ∧ Hid ((false || (l.take k').any (fun x => M x.2 == V)) = b)) ∧ Below (w.heap.size + 1) (w.alloc (.cells #[.int .i64 size, .slice a l.length cap] 24)) wr) (fun _ vi _ => l.length - (intOf vi).toNat)
  case atStart => exact ⟨0, by omega, rfl, ⟨_, rfl, by show _ = _; simp⟩, HB5.out⟩
  case round =>
    obtain ⟨k', hk', rfl, ⟨b, rfl, HI⟩, hb⟩ := hrel
    have hB := hid hb
    have c1 : wr.cell? ⟨w.heap.size, 0, none⟩ = some (.int .i64 size) := boxc hb 0
    have c2 : wr.cell? ⟨w.heap.size, 1, none⟩ = some (.slice a l.length cap) := boxc hb 1
    have hlt0 : w.heap.size < wr.heap.size := World.block_lt_of_cell? _ _ c1
    by_cases hlt : k' < l.length
    · obtain ⟨bb, off, rfl, hbw, d1, d2⟩ := HR.out.get hb k' hlt
      have hd := take_snoc l k' hlt
      obtain ⟨g3, g4, g5⟩ := HG.out (l.getD k' (0, 0)) (by simp [List.getD, hlt])
      generalize l.getD k' (0, 0) = z at d1 d2 hd g3 g4 g5
      obtain ⟨f, e⟩ := z
      simp only at d1 d2 g3 g4 g5
      have HN : Hid ((false || (l.take (k' + 1)).any (fun x => M x.2 == V)) = (b || M e == V)) := by
        show _ = _
        rw [hd, List.any_append, ← Bool.or_assoc, HI.out]; simp
      have HFx := hid (HF.out e (by omega) (by omega))
      have hbw2 : bb < wr.heap.size := by omega
      clear hd HI hb
      generalize M e = Me at *
      generalize hmv : (Me == V) = mv at *
      go_wp2_with fail
      refine (HFx.out _ (Below.alloc (of_alloc hB.out) (by omega) _)).mono ?_
      rintro e5 w5 ⟨rfl, b5⟩
      have hB5 := hid ((Below.alloc hB.out (by omega) _).trans (b5.mono (by simp; omega)))
      clear b5 c1 c2
      cases b
      all_goals
        go_wp2_with fail
        go_roundw
        case rel => exact ⟨k' + 1, by omega, by go_num, ⟨_, rfl, by first | exact HN | (show _ = _; rw [HN.out]; simp_all)⟩, hB5.out⟩
        case measure => simp [intOf]; omega
    · obtain rfl : k' = l.length := by omega
      rw [List.take_length, HT.out] at HI
      have hI : true = b := HI.out
      subst hI
      go_wp2_with fail
      go_ret
      exact ⟨rfl, of_alloc hB.out⟩
set_option maxHeartbeats 1000000 in
theorem from_C (size t k N V : Int) (M : Int → Int) (a : Option Addr) (cap : Nat) (l : List Sp) (w : World) (hr : Sps w a l) (hk : chk size l = 0) (t1 : 0 ≤ t) (t2 : t ≤ 1000000) (k1 : 0 ≤ k) (k2 : k ≤ 1000000) (n1 : 0 ≤ N) (n2 : N ≤ 4000000000000)
    (H1 : Hid (∀ W, Below w.heap.size w W → Calls Try.prog 18 #[.agg #[.int .i64 size, .slice a l.length cap], .int .i64 t, .int .i64 k] W fun e w' => e = .returned (.tuple #[.int .i64 N, .int .i64 0]) ∧ Below W.heap.size W w'))
    (H2 : Hid (∀ W, Below w.heap.size w W → Calls Try.prog 17 #[.agg #[.int .i64 size, .slice a l.length cap], .int .i64 k] W fun e w' => e = .returned (.tuple #[.int .i64 V, .int .i64 0]) ∧ Below W.heap.size W w'))
    (HF : Hid (∀ u, 0 ≤ u → u ≤ 1000000 → ∀ W, Below w.heap.size w W → Calls Try.prog 18 #[.agg #[.int .i64 size, .slice a l.length cap], .int .i64 u, .int .i64 k] W fun e w' => e = .returned (.tuple #[.int .i64 (M u), .int .i64 0]) ∧ Below W.heap.size W w'))
    (b0e : (k == 0) = false) (HT : Hid ((false || l.any (fun x => M x.2 == V)) = true)) (hNV : N ≤ V) (hk0 : 1 ≤ k) (hN0 : 1 ≤ N) (hg : 1099511627776 < t + N) :
    Calls Try.prog 10 #[.agg #[.int .i64 size, .slice a l.length cap], .int .i64 t, .int .i64 k] w fun e w' => e = .returned (.bool true) ∧ Below w.heap.size w w' := by
  obtain ⟨s1, s2, s3, s4⟩ := chk_zero hk
  have HG := hid (good_each s4)
  have HR := hid hr
  have H3 := hid (fun W (h : Below w.heap.size w W) => count_arg size t (t + N) a cap l W (hr.below h (Nat.le_refl _)) hk (by omega))
  clear hr hk s4
  go_enter Try.func10, Try.ntmps10
  go_wp2_with fail
  refine (H1.out _ (by go_grown)).mono ?_
  rintro e w1 ⟨rfl, b⟩
  have HB1 : Hid (Below (w.heap.size + 1) (w.alloc (.cells #[.int .i64 size, .slice a l.length cap] 24)) w1) := box1 b
  clear b
  have c1 : w1.cell? ⟨w.heap.size, 0, none⟩ = some (.int .i64 size) := boxc HB1.out 0
  have c2 : w1.cell? ⟨w.heap.size, 1, none⟩ = some (.slice a l.length cap) := boxc HB1.out 1
  go_wp2_with fail
  refine (H2.out _ (of_alloc HB1.out)).mono ?_
  rintro e w2 ⟨rfl, b⟩
  have HB2 : Hid (Below (w.heap.size + 1) (w.alloc (.cells #[.int .i64 size, .slice a l.length cap] 24)) w2) := box2 HB1.out b
  clear b c1 c2
  have c1 : w2.cell? ⟨w.heap.size, 0, none⟩ = some (.int .i64 size) := boxc HB2.out 0
  have c2 : w2.cell? ⟨w.heap.size, 1, none⟩ = some (.slice a l.length cap) := boxc HB2.out 1
  go_wp2_with fail
  refine ((fun (_ : Below w.heap.size w _) => slives _) (of_alloc HB2.out)).mono ?_
  rintro e w3 ⟨rfl, b⟩
  have HB3 : Hid (Below (w.heap.size + 1) (w.alloc (.cells #[.int .i64 size, .slice a l.length cap] 24)) w3) := box2 HB2.out b
  clear b c1 c2
  have c1 : w3.cell? ⟨w.heap.size, 0, none⟩ = some (.int .i64 size) := boxc HB3.out 0
  have c2 : w3.cell? ⟨w.heap.size, 1, none⟩ = some (.slice a l.length cap) := boxc HB3.out 1
  go_wp2_with fail
  refine (H3.out _ (of_alloc HB3.out)).mono ?_
  rintro e w4 ⟨rfl, b⟩
  have HB4 : Hid (Below (w.heap.size + 1) (w.alloc (.cells #[.int .i64 size, .slice a l.length cap] 24)) w4) := box2 HB3.out b
  clear b c1 c2
  have c1 : w4.cell? ⟨w.heap.size, 0, none⟩ = some (.int .i64 size) := boxc HB4.out 0
  have c2 : w4.cell? ⟨w.heap.size, 1, none⟩ = some (.slice a l.length cap) := boxc HB4.out 1
  go_wp2_with fail
  clear c1 c2
  go_loopw [15, 103] (fun vw vi wr => ∃ k' : Nat, k' ≤ l.length ∧ vi = .int .i64 k' ∧ (∃ b : Bool, vw = .bool b ∧ Hid ((false || (l.take k').any (fun x => M x.2 == V)) = b)) ∧ Below (w.heap.size + 1) (w.alloc (.cells #[.int .i64 size, .slice a l.length cap] 24)) wr) (fun _ vi _ => l.length - (intOf vi).toNat)
  case atStart => exact ⟨0, by omega, rfl, ⟨_, rfl, by show _ = _; simp⟩, HB4.out⟩
  case round =>
    obtain ⟨k', hk', rfl, ⟨b, rfl, HI⟩, hb⟩ := hrel
    have hB := hid hb
    have c1 : wr.cell? ⟨w.heap.size, 0, none⟩ = some (.int .i64 size) := boxc hb 0
    have c2 : wr.cell? ⟨w.heap.size, 1, none⟩ = some (.slice a l.length cap) := boxc hb 1
    have hlt0 : w.heap.size < wr.heap.size := World.block_lt_of_cell? _ _ c1
    by_cases hlt : k' < l.length
    · obtain ⟨bb, off, rfl, hbw, d1, d2⟩ := HR.out.get hb k' hlt
      have hd := take_snoc l k' hlt
      obtain ⟨g3, g4, g5⟩ := HG.out (l.getD k' (0, 0)) (by simp [List.getD, hlt])
      generalize l.getD k' (0, 0) = z at d1 d2 hd g3 g4 g5
      obtain ⟨f, e⟩ := z
      simp only at d1 d2 g3 g4 g5
      have HN : Hid ((false || (l.take (k' + 1)).any (fun x => M x.2 == V)) = (b || M e == V)) := by
        show _ = _
        rw [hd, List.any_append, ← Bool.or_assoc, HI.out]; simp
      have HFx := hid (HF.out e (by omega) (by omega))
      have hbw2 : bb < wr.heap.size := by omega
      clear hd HI hb
      generalize M e = Me at *
      generalize hmv : (Me == V) = mv at *
      go_wp2_with fail
      refine (HFx.out _ (Below.alloc (of_alloc hB.out) (by omega) _)).mono ?_
      rintro e5 w5 ⟨rfl, b5⟩
      have hB5 := hid ((Below.alloc hB.out (by omega) _).trans (b5.mono (by simp; omega)))
      clear b5 c1 c2
      cases b
      all_goals
        go_wp2_with fail
        go_roundw
        case rel => exact ⟨k' + 1, by omega, by go_num, ⟨_, rfl, by first | exact HN | (show _ = _; rw [HN.out]; simp_all)⟩, hB5.out⟩
        case measure => simp [intOf]; omega
    · obtain rfl : k' = l.length := by omega
      rw [List.take_length, HT.out] at HI
      have hI : true = b := HI.out
      subst hI
      go_wp2_with fail
      go_ret
      exact ⟨rfl, of_alloc hB.out⟩
theorem supplyFrom_walk (size : Int) (a : Option Addr) (len cap : Nat) (l : List Sp) (t k : Int) (w : World) (hs : wf64 size) (h : IsSps w a len cap l) (ht : wf64 t) (hk : wf64 k) :
    Calls Try.prog 10 #[.agg #[.int .i64 size, .slice a len cap], .int .i64 t, .int .i64 k] w fun e w' => e = .returned (.bool true) ∧ Below w.heap.size w w' := by
  obtain ⟨rfl, h1, h2, hr, _, _⟩ := h
  by_cases he : fromE size l t k = 0
  · obtain ⟨hc, k1, k2, t1, t2, hw⟩ := from_zeroE he
    obtain ⟨s1, s2, s3, s4⟩ := chk_zero hc
    have hs0 : sE size l k 1000000 = 0 := sE_of hc k1 k2
    have H1 := hid (fun W (h : Below w.heap.size w W) => from_any size t k a cap l W (hr.below h (Nat.le_refl _)))
    have H2 := hid (fun W (h : Below w.heap.size w W) => wait_any size k a cap l W (hr.below h (Nat.le_refl _)))
    rw [he] at H1
    rcases hw with ⟨k0, v0⟩ | ⟨k3, hl, v0⟩
    · rw [v0] at H1
      subst k0
      have hwE : waitE size l 0 = 0 := by unfold waitE; rw [if_pos hs0, if_pos rfl]
      have hwV : waitV size l 0 = 0 := by unfold waitV; rw [if_neg (by simp)]
      rw [hwE, hwV] at H2
      exact from_A size t 0 0 0 (fun _ => 0) a cap l w hr hc t1 t2 k1 k2 (by omega) (by omega) H1 H2 (fun u u1 u2 W h => from_zero size u a cap l W (hr.below h (Nat.le_refl _)) hs0 u1 u2) (by show _ = _; simp) (by omega) rfl rfl
    · rw [v0] at H1
      have hk0 : k ≠ 0 := by omega
      have hwE : waitE size l k = 0 := by unfold waitE; rw [if_pos hs0, if_neg hk0, if_neg hl]
      have hwV : waitV size l k = wt size l k := by unfold waitV; rw [if_pos ⟨hs0, hk0, hl⟩]
      rw [hwE, hwV] at H2
      obtain ⟨p1, p2, p3, p4⟩ := fr_P s1 s4 hl t1 k3
      have p5 := fr_wt s1 s4 hl t1 k3
      have p6 : fr size l t k ≤ 4000000000000 := by
        have c := cb_pos s1 s4 t1
        have e := (endT_le s1 s4 hl (show 1 ≤ cb size l t + k by omega)).2
        have := Int.mul_le_mul_of_nonneg_left s2 (show 0 ≤ cb size l t + k by omega)
        unfold fr; omega
      have hF : Hid (∀ u, 0 ≤ u → u ≤ 1000000 → ∀ W, Below w.heap.size w W → Calls Try.prog 18 #[.agg #[.int .i64 size, .slice a l.length cap], .int .i64 u, .int .i64 k] W fun e w' => e = .returned (.tuple #[.int .i64 (fr size l u k), .int .i64 0]) ∧ Below W.heap.size W w') := fun u u1 u2 W h => from_ok size u k a cap l W (hr.below h (Nat.le_refl _)) hs0 u1 u2 hl hk0
      have hT : Hid ((false || l.any (fun x => fr size l x.2 k == wt size l k)) = true) := by
        show _ = _
        obtain ⟨_, x, hx, e⟩ := wt_at s1 s4 hl k3
        rw [Bool.false_or, List.any_eq_true]
        exact ⟨x, hx, by rw [e]; simp⟩
      by_cases hg : t + fr size l t k ≤ 1099511627776
      · exact from_B size t k (fr size l t k) (wt size l k) (fun u => fr size l u k) a cap l w hr hc t1 t2 k1 k2 (by omega) p6 H1 H2 hF (by simp [hk0]) hT p5 k3 p1 p2 p3 hg
      · exact from_C size t k (fr size l t k) (wt size l k) (fun u => fr size l u k) a cap l w hr hc t1 t2 k1 k2 (by omega) p6 H1 H2 hF (by simp [hk0]) hT p5 k3 p1 (by omega)
  · exact from_e size t k a cap l w hr he
end SpanC
end Go.Proofs.Ytepnlfnnancnfaa
