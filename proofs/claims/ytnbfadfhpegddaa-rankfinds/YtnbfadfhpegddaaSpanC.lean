/- Contracts of package span: within, Check. -/
import Derived.Test.YtnbfadfhpegddaaSpanB
import Derived.Lib.SliceRun
set_option linter.unusedVariables false
namespace Go.Proofs.Ytnbfadfhpegddaa
open Go.RowKit
open SpanM
namespace SpanC
theorem within_yes (x lo hi : Int) (w : World) (h1 : lo ≤ x) (h2 : x ≤ hi) :
    Calls Try.prog 54 #[.int .i64 x, .int .i64 lo, .int .i64 hi] w fun e w' => e = .returned (.bool true) ∧ w' = w := by
  go_enter Try.func54, Try.ntmps54
  go_wp2
  go_ret
  exact ⟨rfl, rfl⟩
theorem within_no (x lo hi : Int) (w : World) (h : ¬ (lo ≤ x ∧ x ≤ hi)) :
    Calls Try.prog 54 #[.int .i64 x, .int .i64 lo, .int .i64 hi] w fun e w' => e = .returned (.bool false) ∧ w' = w := by
  by_cases h1 : lo ≤ x
  · have h2 : ¬ x ≤ hi := fun k => h ⟨h1, k⟩
    clear h
    go_enter Try.func54, Try.ntmps54
    go_wp2
    go_ret
    exact ⟨rfl, rfl⟩
  · clear h
    go_enter Try.func54, Try.ntmps54
    go_wp2
    go_ret
    exact ⟨rfl, rfl⟩

theorem check_arg (size : Int) (a : Option Addr) (n cap : Nat) (w : World) (h : ¬ (1 ≤ size ∧ size ≤ 1000000)) :
    Calls Try.prog 38 #[.agg #[.int .i64 size, .slice a n cap]] w fun e w' => e = .returned (.int .i64 1) ∧ Below w.heap.size w w' := by
  go_enter Try.func38, Try.ntmps38
  go_wp2_with (first | (go_at_call 54; go_call (within_yes _ _ _ _) as e w' ⟨rfl, rfl⟩) | (go_at_call 54; go_call (within_no _ _ _ _) as e w' ⟨rfl, rfl⟩))
  go_ret
  exact ⟨rfl, by go_grown⟩
theorem check_large (size : Int) (a : Option Addr) (n cap : Nat) (w : World) (h1 : 1 ≤ size) (h2 : size ≤ 1000000) (h : 200 < n) :
    Calls Try.prog 38 #[.agg #[.int .i64 size, .slice a n cap]] w fun e w' => e = .returned (.int .i64 2) ∧ Below w.heap.size w w' := by
  have hn : (200 : Int) < (n : Int) := by omega
  go_enter Try.func38, Try.ntmps38
  go_wp2_with (first | (go_at_call 54; go_call (within_yes _ _ _ _) as e w' ⟨rfl, rfl⟩) | (go_at_call 54; go_call (within_no _ _ _ _) as e w' ⟨rfl, rfl⟩))
  go_ret
  exact ⟨rfl, by go_grown⟩
set_option maxHeartbeats 400000 in
theorem check_list (size : Int) (a : Option Addr) (cap : Nat) (l : List Sp) (w : World) (h1 : 1 ≤ size) (h2 : size ≤ 1000000) (h : ¬ 200 < l.length) (hr : Sps w a l) :
    Calls Try.prog 38 #[.agg #[.int .i64 size, .slice a l.length cap]] w fun e w' => e = .returned (.int .i64 (chkG size l)) ∧ Below w.heap.size w w' := by
  have hn : ¬ (200 : Int) < (l.length : Int) := by omega
  have HR : Hid _ := hr
  clear hr
  go_enter Try.func38, Try.ntmps38
  go_wp2_with (first | (go_at_call 54; go_call (within_yes _ _ _ _) as e w' ⟨rfl, rfl⟩) | (go_at_call 54; go_call (within_no _ _ _ _) as e w' ⟨rfl, rfl⟩))
  go_loopw [3, 17] (fun v3 v17 wr => ∃ (k : Nat) (E : Int), k ≤ l.length ∧ v3 = .int .i64 E ∧ v17 = .int .i64 k ∧ Hid (good size (-1) l = good size E (l.drop k)) ∧ Below (w.heap.size + 1) (w.alloc (.cells #[.int .i64 size, .slice a l.length cap] 26)) wr) (fun _ v17 _ => l.length - (intOf v17).toNat)
  case atStart => exact ⟨0, -1, by omega, rfl, rfl, by show _ = _; simp, Below.refl _ _⟩
  case round =>
    obtain ⟨k, E, hk, rfl, rfl, hg, hb⟩ := hrel
    have hsz := hb.size
    simp only [World.size_alloc] at hsz
    have hB : Hid _ := hb
    by_cases hlt : k < l.length
    · obtain ⟨b, off, rfl, hbw, c1, c2⟩ := Sps.at HR.out k hlt
      have d1 := (hb.cell (p := ⟨b, off + k * 2, none⟩) (by simp; omega)).trans (Lib.cell?_alloc_some _ c1)
      have d2 := (hb.cell (p := ⟨b, off + k * 2 + 1, none⟩) (by simp; omega)).trans (Lib.cell?_alloc_some _ c2)
      have d3 : wr.cell? ⟨w.heap.size, 0, none⟩ = some (.int .i64 size) := (hb.cell (by simp)).trans (World.cell?_alloc_at _ _ _ _ rfl)
      have hd := drop_get l k hlt
      clear c1 c2 hb
      generalize hz : l.getD k (0, 0) = z at d1 d2 hd
      obtain ⟨f, t⟩ := z
      have Hd : Hid _ := hd
      clear hz hd
      simp only at d1 d2
      have hne : b < wr.heap.size := by omega
      have hne2 : w.heap.size < wr.heap.size := by omega
      by_cases ho : E < f ∧ f < t ∧ t ≤ size
      · obtain ⟨o1, o2, o3⟩ := ho
        go_wp2_with fail
        go_roundw
        case rel =>
          refine ⟨k + 1, t, by omega, by go_num, by go_num, ?_, ?_⟩
          · show _ = _
            rw [hg.out, Hd.out]
            simp [good, o1, o2, o3]
          · have := hB.out; go_grown
        case measure => simp [intOf]; omega
      · have HF : Hid (chkG size l = 4) := by
          show _ = _
          unfold chkG
          rw [if_neg]
          rw [hg.out, Hd.out]
          simp [good]
          intro _ _ _
          omega
        have hbe : Below w.heap.size w wr := ((Below.refl _ _).alloc (Nat.le_refl _) _).trans (hB.out.mono (by omega))
        have C : f ≤ E ∨ (E < f ∧ t ≤ f) ∨ (E < f ∧ f < t ∧ size < t) := by omega
        clear ho
        rcases C with o1 | ⟨o1, o2⟩ | ⟨o1, o2, o3⟩
        all_goals
          go_wp2_with fail
          go_ret
          exact ⟨ret_int HF.out.symm, by go_grown⟩
    · have HF : Hid (chkG size l = 0) := by
        show _ = _
        unfold chkG
        rw [if_pos]
        rw [hg.out, List.drop_of_length_le (by omega)]; rfl
      clear hb
      go_wp2_with fail
      go_ret
      exact ⟨ret_int HF.out.symm, ((Below.refl _ _).alloc (Nat.le_refl _) _).trans (hB.out.mono (by omega))⟩
theorem check_any (size : Int) (a : Option Addr) (cap : Nat) (l : List Sp) (w : World) (hr : Sps w a l) :
    Calls Try.prog 38 #[.agg #[.int .i64 size, .slice a l.length cap]] w fun e w' => e = .returned (.int .i64 (chk size l)) ∧ Below w.heap.size w w' := by
  unfold chk
  split
  · split
    · exact check_large size a _ cap w (by omega) (by omega) (by omega)
    · exact check_list size a cap l w (by omega) (by omega) (by omega) hr
  · exact check_arg size a _ cap w (by omega)
end SpanC
end Go.Proofs.Ytnbfadfhpegddaa
