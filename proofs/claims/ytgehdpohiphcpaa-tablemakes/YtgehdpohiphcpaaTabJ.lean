/- Contracts of package dutyref: WantRight, MadeTable. -/
import Derived.Test.YtgehdpohiphcpaaTabF4
import Derived.Test.YtgehdpohiphcpaaTabP2
import Derived.Test.YtgehdpohiphcpaaTabR
set_option linter.unusedVariables false
namespace Go.Proofs.Ytgehdpohiphcpaa
open Go.RowKit
open SpanM SpanC TabM
namespace TabC
set_option maxHeartbeats 800000 in
theorem wantR_any (frame o f n e : Int) (w : World) (hf1 : 1 ≤ frame) (hf2 : frame ≤ 1000000) :
    Calls Try.prog 49 #[.int .i64 frame, .agg #[.int .i64 o, .int .i64 f, .int .i64 n, .int .i64 e]] w fun r w' => r = .returned (.bool (decide (fitP frame (o, f, n, e)))) ∧ Below w.heap.size w w' := by
  by_cases ho : 0 ≤ o ∧ o ≤ 15
  · obtain ⟨o1, o2⟩ := ho
    by_cases he : 1 ≤ e ∧ e ≤ frame
    · obtain ⟨e1, e2⟩ := he
      have m1 := Int.emod_nonneg frame (show e ≠ 0 by omega)
      have m2 := Int.emod_lt_of_pos frame (show 0 < e by omega)
      by_cases hm : frame % e = 0
      · have hm' : (frame % e == 0) = true := by simp [hm]
        by_cases hn : 1 ≤ n ∧ n ≤ e
        · obtain ⟨n1, n2⟩ := hn
          by_cases hf : 0 ≤ f ∧ f ≤ e - n
          · obtain ⟨f1, f2⟩ := hf
            have hP : fitP frame (o, f, n, e) := ⟨⟨e1, e2, hm⟩, ⟨o1, o2⟩, ⟨n1, n2⟩, f1, f2⟩
            rw [decide_eq_true hP]
            clear hm hP
            go_enter Try.func49, Try.ntmps49
            go_wp2_with (first | (go_at_call 14; go_call (btw_yes _ _ _ _) as e w' ⟨rfl, rfl⟩) | (go_at_call 14; go_call (btw_no _ _ _ _) as e w' ⟨rfl, rfl⟩))
            go_ret
            exact ⟨rfl, by go_grown⟩
          · have hP : ¬ fitP frame (o, f, n, e) := fun h => by unfold fitP at h; simp only at h; omega
            rw [decide_eq_false hP]
            clear hm hP
            go_enter Try.func49, Try.ntmps49
            go_wp2_with (first | (go_at_call 14; go_call (btw_yes _ _ _ _) as e w' ⟨rfl, rfl⟩) | (go_at_call 14; go_call (btw_no _ _ _ _) as e w' ⟨rfl, rfl⟩))
            go_ret
            exact ⟨rfl, by go_grown⟩
        · have hP : ¬ fitP frame (o, f, n, e) := fun h => by unfold fitP at h; simp only at h; omega
          rw [decide_eq_false hP]
          clear hm hP
          go_enter Try.func49, Try.ntmps49
          go_wp2_with (first | (go_at_call 14; go_call (btw_yes _ _ _ _) as e w' ⟨rfl, rfl⟩) | (go_at_call 14; go_call (btw_no _ _ _ _) as e w' ⟨rfl, rfl⟩))
          go_ret
          exact ⟨rfl, by go_grown⟩
      · have hm' : (frame % e == 0) = false := by simp [hm]
        have hP : ¬ fitP frame (o, f, n, e) := fun h => by unfold fitP at h; simp only at h; omega
        rw [decide_eq_false hP]
        clear hm hP
        go_enter Try.func49, Try.ntmps49
        go_wp2_with (first | (go_at_call 14; go_call (btw_yes _ _ _ _) as e w' ⟨rfl, rfl⟩) | (go_at_call 14; go_call (btw_no _ _ _ _) as e w' ⟨rfl, rfl⟩))
        go_ret
        exact ⟨rfl, by go_grown⟩
    · have hP : ¬ fitP frame (o, f, n, e) := fun h => by unfold fitP at h; simp only at h; omega
      rw [decide_eq_false hP]
      clear hP
      go_enter Try.func49, Try.ntmps49
      go_wp2_with (first | (go_at_call 14; go_call (btw_yes _ _ _ _) as e w' ⟨rfl, rfl⟩) | (go_at_call 14; go_call (btw_no _ _ _ _) as e w' ⟨rfl, rfl⟩))
      go_ret
      exact ⟨rfl, by go_grown⟩
  · have hP : ¬ fitP frame (o, f, n, e) := fun h => by unfold fitP at h; simp only at h; omega
    rw [decide_eq_false hP]
    clear hP
    go_enter Try.func49, Try.ntmps49
    go_wp2_with (first | (go_at_call 14; go_call (btw_yes _ _ _ _) as e w' ⟨rfl, rfl⟩) | (go_at_call 14; go_call (btw_no _ _ _ _) as e w' ⟨rfl, rfl⟩))
    go_ret
    exact ⟨rfl, by go_grown⟩
/-- a window put in its place -/
theorem ins_good {frame : Int} {L : List Win} {x : Win} {i : Nat} (hg : wgood frame 0 L = true) (hx : wfit frame 0 x) (hi : i ≤ L.length) (h1 : ∀ y ∈ L.take i, y.1 < x.1) (h2 : ∀ h : i < L.length, x.1 ≤ (L[i]).1) (hd : ∀ y ∈ L, x.1 + x.2.1 ≤ y.1 ∨ y.1 + y.2.1 ≤ x.1) : wgood frame 0 (L.take i ++ x :: L.drop i) = true := by
  have hlt := wgood_lt hg
  have hap := wgood_apart hg
  have hsp : L = L.take i ++ L.drop i := (List.take_append_drop i L).symm
  have h3 : ∀ y ∈ L.drop i, x.1 ≤ y.1 := by
    intro y hy
    by_cases hil : i < L.length
    · have hdr : L.drop i = L[i] :: L.drop (i + 1) := List.drop_eq_getElem_cons hil
      rw [hdr] at hy
      rcases List.mem_cons.1 hy with rfl | hy
      · exact h2 hil
      · have hp := hlt
        rw [hsp, hdr] at hp
        have := (List.pairwise_cons.1 (List.pairwise_append.1 hp).2.1).1 y hy
        have := h2 hil
        omega
    · rw [List.drop_of_length_le (by omega)] at hy; simp at hy
  have hl' := hlt
  have ha' := hap
  unfold Apart at ha'
  rw [hsp] at hl' ha'
  obtain ⟨l1, l2, l3⟩ := List.pairwise_append.1 hl'
  obtain ⟨a1, a2, a3⟩ := List.pairwise_append.1 ha'
  refine good_of (List.pairwise_append.2 ⟨l1.imp (fun h => by omega), List.pairwise_cons.2 ⟨h3, l2.imp (fun h => by omega)⟩, fun y hy z hz => ?_⟩) (List.pairwise_append.2 ⟨a1, List.pairwise_cons.2 ⟨fun y hy => hd y (List.mem_of_mem_drop hy), a2⟩, fun y hy z hz => ?_⟩) fun y hy => ?_
  · rcases List.mem_cons.1 hz with rfl | hz
    · have := h1 y hy; omega
    · have := l3 y hy z hz; omega
  · rcases List.mem_cons.1 hz with rfl | hz
    · exact (hd y (List.mem_of_mem_take hy)).symm
    · exact a3 y hy z hz
  · rcases List.mem_append.1 hy with hy | hy
    · exact wgood_each hg y (List.mem_of_mem_take hy)
    · rcases List.mem_cons.1 hy with rfl | hy
      · exact hx
      · exact wgood_each hg y (List.mem_of_mem_drop hy)
theorem ins_perm {L P : List Win} {x : Win} {i : Nat} (h : L.Perm P) : (L.take i ++ x :: L.drop i).Perm (P ++ [x]) := by
  refine List.perm_middle.trans ?_
  rw [List.take_append_drop]
  exact (h.cons x).trans (List.perm_append_singleton x P).symm
end TabC
end Go.Proofs.Ytgehdpohiphcpaa
