/- Contracts of package dutyref: Between, TableRight, OwnerOf. -/
import Derived.Test.YtgehdpohiphcpaaTabC
set_option linter.unusedVariables false
namespace Go.Proofs.Ytgehdpohiphcpaa
open Go.RowKit
open SpanM SpanC TabM
namespace TabC
theorem btw_yes (x lo hi : Int) (w : World) (h1 : lo ≤ x) (h2 : x ≤ hi) :
    Calls Try.prog 14 #[.int .i64 x, .int .i64 lo, .int .i64 hi] w fun e w' => e = .returned (.bool true) ∧ w' = w := by
  go_enter Try.func14, Try.ntmps14
  go_wp2
  go_ret
  exact ⟨rfl, rfl⟩
theorem btw_no (x lo hi : Int) (w : World) (h : ¬ (lo ≤ x ∧ x ≤ hi)) :
    Calls Try.prog 14 #[.int .i64 x, .int .i64 lo, .int .i64 hi] w fun e w' => e = .returned (.bool false) ∧ w' = w := by
  by_cases h1 : lo ≤ x
  · have h2 : ¬ x ≤ hi := fun k => h ⟨h1, k⟩
    clear h
    go_enter Try.func14, Try.ntmps14
    go_wp2
    go_ret
    exact ⟨rfl, rfl⟩
  · clear h
    go_enter Try.func14, Try.ntmps14
    go_wp2
    go_ret
    exact ⟨rfl, rfl⟩
theorem right_arg (size : Int) (a : Option Addr) (n cap : Nat) (w : World) (h : ¬ (1 ≤ size ∧ size ≤ 1000000)) :
    Calls Try.prog 13 #[.agg #[.int .i64 size, .slice a n cap]] w fun e w' => e = .returned (.int .i64 1) ∧ Below w.heap.size w w' := by
  go_enter Try.func13, Try.ntmps13
  go_wp2_with (first | (go_at_call 14; go_call (btw_yes _ _ _ _) as e w' ⟨rfl, rfl⟩) | (go_at_call 14; go_call (btw_no _ _ _ _) as e w' ⟨rfl, rfl⟩))
  go_ret
  exact ⟨rfl, by go_grown⟩
theorem right_large (size : Int) (a : Option Addr) (n cap : Nat) (w : World) (h1 : 1 ≤ size) (h2 : size ≤ 1000000) (h : 200 < n) :
    Calls Try.prog 13 #[.agg #[.int .i64 size, .slice a n cap]] w fun e w' => e = .returned (.int .i64 2) ∧ Below w.heap.size w w' := by
  have hn : (200 : Int) < (n : Int) := by omega
  go_enter Try.func13, Try.ntmps13
  go_wp2_with (first | (go_at_call 14; go_call (btw_yes _ _ _ _) as e w' ⟨rfl, rfl⟩) | (go_at_call 14; go_call (btw_no _ _ _ _) as e w' ⟨rfl, rfl⟩))
  go_ret
  exact ⟨rfl, by go_grown⟩
set_option maxHeartbeats 1600000 in
theorem right_list (size : Int) (a : Option Addr) (cap : Nat) (l : List Win) (w : World) (h1 : 1 ≤ size) (h2 : size ≤ 1000000) (h : ¬ 200 < l.length) (hr : Wns w a l) :
    Calls Try.prog 13 #[.agg #[.int .i64 size, .slice a l.length cap]] w fun e w' => e = .returned (.int .i64 (tchkG size l)) ∧ Below w.heap.size w w' := by
  have hn : ¬ (200 : Int) < (l.length : Int) := by omega
  have HR := hid hr
  clear hr
  go_enter Try.func13, Try.ntmps13
  go_wp2_with (first | (go_at_call 14; go_call (btw_yes _ _ _ _) as e w' ⟨rfl, rfl⟩) | (go_at_call 14; go_call (btw_no _ _ _ _) as e w' ⟨rfl, rfl⟩))
  go_loopw [17] (fun v17 wr => ∃ (k : Nat) (E : Int), k ≤ l.length ∧ v17 = .int .i64 k ∧ Hid (wgood size 0 l = wgood size E (l.drop k)) ∧ ((k = 0 ∧ E = 0) ∨ (0 < k ∧ Hid (∃ F N, F = (l.getD (k - 1) z3).1 ∧ N = (l.getD (k - 1) z3).2.1 ∧ E = F + N) ∧ 0 ≤ E ∧ E ≤ size)) ∧ Below (w.heap.size + 1) (w.alloc (.cells #[.int .i64 size, .slice a l.length cap] 24)) wr) (fun v17 _ => l.length - (intOf v17).toNat)
  case atStart => exact ⟨0, 0, by omega, rfl, by show _ = _; simp, .inl ⟨rfl, rfl⟩, Below.refl _ _⟩
  case round =>
    obtain ⟨k, E, hk, rfl, hg, hE, hb⟩ := hrel
    have hsz := hb.size
    simp only [World.size_alloc] at hsz
    have hB := hid hb
    by_cases hlt : k < l.length
    · obtain ⟨b, off, rfl, hbw, d1, d2, d3⟩ := HR.out.get hb k hlt
      have d4 : wr.cell? ⟨w.heap.size, 0, none⟩ = some (.int .i64 size) := (hb.cell (by simp)).trans (World.cell?_alloc_at _ _ _ _ rfl)
      have d5 : wr.cell? ⟨w.heap.size, 1, none⟩ = some (.slice (some ⟨b, off, none⟩) l.length cap) := (hb.cell (by simp)).trans (World.cell?_alloc_at _ _ _ _ rfl)
      have hd := drop_get z3 l k hlt
      have hfm : (l.getD k z3).1 ≤ 9223372036854775807 := HR.out.1 _ (by simp [List.getD, hlt])
      have hw1 : b < wr.heap.size := by omega
      have hw2 : w.heap.size < wr.heap.size := by omega
      have hN : ∀ f n o, l.getD k z3 = (f, n, o) → 0 ≤ f + n → f + n ≤ size → ((k + 1 = 0 ∧ f + n = 0) ∨ (0 < k + 1 ∧ Hid (∃ F N, F = (l.getD (k + 1 - 1) z3).1 ∧ N = (l.getD (k + 1 - 1) z3).2.1 ∧ f + n = F + N) ∧ 0 ≤ f + n ∧ f + n ≤ size)) := by
        intro f n o he h1 h2
        right
        exact ⟨by omega, ⟨f, n, by rw [Nat.add_sub_cancel, he], by rw [Nat.add_sub_cancel, he], rfl⟩, h1, h2⟩
      have HN := hid hN
      clear hN
      have hprev : 0 < k → ∃ b' off' F N, (some ⟨b, off, none⟩ : Option Addr) = some ⟨b', off', none⟩ ∧ wr.cell? ⟨b', off' + (k - 1) * 3, none⟩ = some (.int .i64 F) ∧ wr.cell? ⟨b', off' + (k - 1) * 3 + 1, none⟩ = some (.int .i64 N) ∧ F = (l.getD (k - 1) z3).1 ∧ N = (l.getD (k - 1) z3).2.1 := by
        intro h0
        obtain ⟨b', off', eb, _, e1, e2, _⟩ := HR.out.get hb (k - 1) (by omega)
        exact ⟨b', off', _, _, eb, e1, e2, rfl, rfl⟩
      have HP := hid hprev
      clear hb hprev
      generalize hz : l.getD k z3 = z at d1 d2 d3 hd hfm
      obtain ⟨f, n, o⟩ := z
      have Hd := hid hd
      have Hz := hid hz
      clear hz hd
      simp only at d1 d2 d3 hfm
      have hbe : Below w.heap.size w wr := of_alloc hB.out
      have HF4 : Hid (¬ (0 ≤ o ∧ o ≤ 15 ∧ E ≤ f ∧ 1 ≤ n ∧ f + n ≤ size) → tchkG size l = 4) := by
        intro ho
        unfold tchkG
        rw [if_neg]
        rw [hg.out, Hd.out]
        intro hh
        exact ho (wgood_cons.1 hh).1
      have C : (0 ≤ o ∧ o ≤ 15 ∧ E ≤ f ∧ f ≤ size ∧ 1 ≤ n ∧ n ≤ size - f) ∨ ¬ (0 ≤ o ∧ o ≤ 15) ∨ (0 ≤ o ∧ o ≤ 15 ∧ ¬ (E ≤ f ∧ f ≤ size)) ∨ (0 ≤ o ∧ o ≤ 15 ∧ E ≤ f ∧ f ≤ size ∧ ¬ (1 ≤ n ∧ n ≤ size - f)) := by omega
      rcases hE with ⟨rfl, rfl⟩ | ⟨hk0, hE1, hE2, hE3⟩
      · simp only [Nat.zero_mul, Nat.add_zero] at d1 d2 d3
        rcases C with ⟨o1, o2, o3, o4, o5, o6⟩ | o1 | ⟨o1, o2, o3⟩ | ⟨o1, o2, o3, o4, o5⟩
        · go_wp2_with (first | (go_at_call 14; go_call (btw_yes _ _ _ _) as e w' ⟨rfl, rfl⟩))
          go_roundw
          case rel =>
            refine ⟨0 + 1, f + n, by omega, by go_num, ?_, HN.out f n o (by rw [Hz.out]) (by omega) (by omega), by have := hB.out; go_grown⟩
            show _ = _
            rw [hg.out, Hd.out]
            have : wfit size 0 (f, n, o) := ⟨o1, o2, o3, o5, by simp only; omega⟩
            simp [wgood, this]
          case measure => simp [intOf]; omega
        all_goals
          have HF : Hid (tchkG size l = 4) := HF4.out (by omega)
          go_wp2_with (first | (go_at_call 14; go_call (btw_yes _ _ _ _) as e w' ⟨rfl, rfl⟩) | (go_at_call 14; go_call (btw_no _ _ _ _) as e w' ⟨rfl, rfl⟩))
          go_ret
          exact ⟨ret_int HF.out.symm, by go_grown⟩
      · obtain ⟨F, N, hF, hN, hEq⟩ := hE1.out
        obtain ⟨b', off', F', N', eb, e1, e2, hF', hN'⟩ := HP.out hk0
        obtain ⟨rfl, rfl⟩ : b = b' ∧ off = off' := by simpa using eb
        obtain rfl : F' = F := by rw [hF', hF]
        obtain rfl : N' = N := by rw [hN', hN]
        clear eb hF hN hF' hN' HP hE1
        obtain ⟨j, rfl⟩ : ∃ j, k = j + 1 := ⟨k - 1, by omega⟩
        simp only [Nat.add_sub_cancel] at e1 e2
        have hj : (j : Int) + 1 - 1 = (j : Int) := by omega
        subst hEq
        rcases C with ⟨o1, o2, o3, o4, o5, o6⟩ | o1 | ⟨o1, o2, o3⟩ | ⟨o1, o2, o3, o4, o5⟩
        · go_wp2_with fail
          go_quiet (fail)
          go_wp2_with (first | (go_at_call 14; go_call (btw_yes _ _ _ _) as e w' ⟨rfl, rfl⟩))
          go_roundw
          case rel =>
            refine ⟨j + 1 + 1, f + n, by omega, by go_num, ?_, HN.out f n o (by rw [Hz.out]) (by omega) (by omega), below_drewN (by have := hB.out; go_grown) _⟩
            show _ = _
            rw [hg.out, Hd.out]
            have : wfit size (F' + N') (f, n, o) := ⟨o1, o2, o3, o5, by simp only; omega⟩
            simp [wgood, this]
          case measure => simp [intOf]; omega
        all_goals
          have HF : Hid (tchkG size l = 4) := HF4.out (by omega)
          go_wp2_with fail
          go_quiet (fail)
          go_wp2_with (first | (go_at_call 14; go_call (btw_yes _ _ _ _) as e w' ⟨rfl, rfl⟩) | (go_at_call 14; go_call (btw_no _ _ _ _) as e w' ⟨rfl, rfl⟩))
          go_ret
          exact ⟨ret_int HF.out.symm, below_drewN (by go_grown) _⟩
    · have HF : Hid (tchkG size l = 0) := by
        show _ = _
        unfold tchkG
        rw [if_pos]
        rw [hg.out, List.drop_of_length_le (by omega)]; rfl
      clear hb
      go_wp2_with fail
      go_ret
      exact ⟨ret_int HF.out.symm, of_alloc hB.out⟩
theorem right_any (size : Int) (a : Option Addr) (cap : Nat) (l : List Win) (w : World) (hr : Wns w a l) :
    Calls Try.prog 13 #[.agg #[.int .i64 size, .slice a l.length cap]] w fun e w' => e = .returned (.int .i64 (tchk size l)) ∧ Below w.heap.size w w' := by
  unfold tchk
  split
  · split
    · exact right_large size a _ cap w (by omega) (by omega) (by omega)
    · exact right_list size a cap l w (by omega) (by omega) (by omega) hr
  · exact right_arg size a _ cap w (by omega)
set_option maxHeartbeats 800000 in
theorem ownerOf_any (size t : Int) (a : Option Addr) (cap : Nat) (l : List Win) (w : World) (hr : Wns w a l) (hk : tchk size l = 0) (ht : 0 ≤ t) (ht2 : t ≤ 9223372036854775807) :
    Calls Try.prog 15 #[.agg #[.int .i64 size, .slice a l.length cap], .int .i64 t] w fun e w' => e = .returned (.int .i64 (wown l (t % size))) ∧ Below w.heap.size w w' := by
  obtain ⟨s1, s2, s3, s4⟩ := tchk_zero hk
  have m1 := Int.emod_nonneg t (show size ≠ 0 by omega)
  have m2 := Int.emod_lt_of_pos t (show 0 < size by omega)
  have HG := hid (wgood_each s4)
  have HR := hid hr
  clear hr hk s4
  generalize hM : wown l (t % size) = M
  have HM := hid hM
  clear hM
  go_enter Try.func15, Try.ntmps15
  go_wp2_with fail
  go_loopw [10] (fun v10 wr => ∃ (k : Nat), k ≤ l.length ∧ v10 = .int .i64 k ∧ Hid (wown (l.drop k) (t % size) = M) ∧ Below (w.heap.size + 1) (w.alloc (.cells #[.int .i64 size, .slice a l.length cap] 24)) wr) (fun v10 _ => l.length - (intOf v10).toNat)
  case atStart => exact ⟨0, by omega, rfl, by simpa using HM, Below.refl _ _⟩
  case round =>
    obtain ⟨k, hk, rfl, hg, hb⟩ := hrel
    have hB := hid hb
    have hsz := hb.size
    simp only [World.size_alloc] at hsz
    by_cases hlt : k < l.length
    · obtain ⟨b, off, rfl, hbw, d1, d2, d3⟩ := HR.out.get hb k hlt
      have d4 : wr.cell? ⟨w.heap.size, 0, none⟩ = some (.int .i64 size) := (hb.cell (by simp)).trans (World.cell?_alloc_at _ _ _ _ rfl)
      have hge := HG.out (l.getD k z3) (by simp [List.getD, hlt])
      have hd := wown_drop (t := t % size) hlt
      clear hb
      generalize hz : l.getD k z3 = z at d1 d2 d3 hd hge
      obtain ⟨f, n, o⟩ := z
      have Hd := hid hd
      clear hz hd
      simp only [wfit] at d1 d2 d3 hge
      obtain ⟨g1, g2, g3, g4, g5⟩ := hge
      have hw2 : w.heap.size < wr.heap.size := by omega
      by_cases ho : 0 ≤ t % size - f ∧ t % size - f ≤ n - 1
      · obtain ⟨o1, o2⟩ := ho
        have HF : Hid (M = o) := by
          show _ = _
          rw [← hg.out, Hd.out, if_pos (by unfold inW; simp only; omega)]
        go_wp2_with fail
        go_quiet ((go_at_call 14; exact Calls.quiet_of_same (btw_yes _ _ _ _ (by omega) (by omega))))
        go_wp2_with fail
        go_ret
        exact ⟨ret_int HF.out.symm, below_drewN (by have := of_alloc hB.out; go_grown) _⟩
      · have HF : Hid (wown (l.drop (k + 1)) (t % size) = M) := by
          show _ = _
          rw [← hg.out, Hd.out, if_neg (by unfold inW; simp only; omega)]
        go_wp2_with fail
        go_quiet ((go_at_call 14; exact Calls.quiet_of_same (btw_no _ _ _ _ (by omega))))
        go_wp2_with fail
        go_roundw
        case rel => exact ⟨k + 1, by omega, by go_num, HF, below_drewN (by have := hB.out; go_grown) _⟩
        case measure => simp [intOf]; omega
    · have HF : Hid (M = -1) := by
        show _ = _
        rw [← hg.out, List.drop_of_length_le (by omega)]; rfl
      clear hb
      go_wp2_with fail
      go_ret
      exact ⟨ret_int HF.out.symm, of_alloc hB.out⟩
end TabC
end Go.Proofs.Ytgehdpohiphcpaa
