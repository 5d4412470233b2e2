/- Wants in memory; contracts of package table: fitsFrame, checkWants. -/
import Derived.Test.YtgehdpohiphcpaaTabC
import Derived.Test.YtgehdpohiphcpaaTabM3
set_option linter.unusedVariables false
namespace Go.Proofs.Ytgehdpohiphcpaa
open Go.RowKit
open SpanM SpanC TabM
namespace TabC
/-- the wants that lie at a -/
def Wts (w : World) (a : Option Addr) (l : List Wnt) : Prop :=
  l = [] ∨ ∃ b off, a = some ⟨b, off, none⟩ ∧ ∀ i, i < l.length → w.cell? ⟨b, off + i * 4, none⟩ = some (.int .i64 (l.getD i z4).1) ∧ w.cell? ⟨b, off + i * 4 + 1, none⟩ = some (.int .i64 (l.getD i z4).2.1) ∧ w.cell? ⟨b, off + i * 4 + 2, none⟩ = some (.int .i64 (l.getD i z4).2.2.1) ∧ w.cell? ⟨b, off + i * 4 + 3, none⟩ = some (.int .i64 (l.getD i z4).2.2.2)
theorem Wts.at {w : World} {a : Option Addr} {l : List Wnt} (h : Wts w a l) (k : Nat) (hk : k < l.length) :
    ∃ b off, a = some ⟨b, off, none⟩ ∧ b < w.heap.size ∧ w.cell? ⟨b, off + k * 4, none⟩ = some (.int .i64 (l.getD k z4).1) ∧ w.cell? ⟨b, off + k * 4 + 1, none⟩ = some (.int .i64 (l.getD k z4).2.1) ∧ w.cell? ⟨b, off + k * 4 + 2, none⟩ = some (.int .i64 (l.getD k z4).2.2.1) ∧ w.cell? ⟨b, off + k * 4 + 3, none⟩ = some (.int .i64 (l.getD k z4).2.2.2) := by
  rcases h with rfl | ⟨b, off, rfl, h⟩
  · simp at hk
  · obtain ⟨h1, h2, h3, h4⟩ := h k hk
    exact ⟨b, off, rfl, World.block_lt_of_cell? w _ h1, h1, h2, h3, h4⟩
theorem Wts.below {w w' : World} {a : Option Addr} {l : List Wnt} {B : Nat} (h : Wts w a l) (hb : Below B w w') (hB : w.heap.size ≤ B) : Wts w' a l := by
  rcases h with rfl | ⟨b, off, rfl, h⟩
  · exact .inl rfl
  · refine .inr ⟨b, off, rfl, fun i hi => ?_⟩
    obtain ⟨h1, h2, h3, h4⟩ := h i hi
    have hl : b < B := by simpa using Nat.lt_of_lt_of_le (World.block_lt_of_cell? w _ h1) hB
    exact ⟨(hb.cell (by simpa using hl)).trans h1, (hb.cell (by simpa using hl)).trans h2, (hb.cell (by simpa using hl)).trans h3, (hb.cell (by simpa using hl)).trans h4⟩
set_option maxHeartbeats 800000 in
theorem fits_any (frame o f n e : Int) (w : World) (hf1 : 1 ≤ frame) (hf2 : frame ≤ 1000000) :
    Calls Try.prog 65 #[.agg #[.int .i64 o, .int .i64 f, .int .i64 n, .int .i64 e], .int .i64 frame] w fun r w' => r = .returned (.bool (decide (fitP frame (o, f, n, e)))) ∧ Below w.heap.size w w' := by
  by_cases he : 1 ≤ e ∧ e ≤ frame
  · obtain ⟨e1, e2⟩ := he
    have m1 := Int.emod_nonneg frame (show e ≠ 0 by omega)
    have m2 := Int.emod_lt_of_pos frame (show 0 < e by omega)
    by_cases hm : frame % e = 0
    · have hm' : (frame % e != 0) = false := by simp [hm]
      by_cases ho : 0 ≤ o ∧ o ≤ 15
      · obtain ⟨o1, o2⟩ := ho
        by_cases hn : 1 ≤ n ∧ n ≤ e
        · obtain ⟨n1, n2⟩ := hn
          by_cases hf : 0 ≤ f ∧ f ≤ e - n
          · obtain ⟨f1, f2⟩ := hf
            have hP : fitP frame (o, f, n, e) := ⟨⟨e1, e2, hm⟩, ⟨o1, o2⟩, ⟨n1, n2⟩, f1, f2⟩
            rw [decide_eq_true hP]
            clear hm hP
            go_enter Try.func65, Try.ntmps65
            go_wp2_with (first | (go_at_call 39; go_call (within_yes _ _ _ _) as e w' ⟨rfl, rfl⟩) | (go_at_call 39; go_call (within_no _ _ _ _) as e w' ⟨rfl, rfl⟩) | (go_at_call 41; go_call (isOwner_yes _ _) as e w' ⟨rfl, rfl⟩) | (go_at_call 41; go_call (isOwner_no _ _) as e w' ⟨rfl, rfl⟩))
            go_ret
            exact ⟨rfl, by go_grown⟩
          · have hP : ¬ fitP frame (o, f, n, e) := fun h => by unfold fitP at h; simp only at h; omega
            rw [decide_eq_false hP]
            clear hm hP
            go_enter Try.func65, Try.ntmps65
            go_wp2_with (first | (go_at_call 39; go_call (within_yes _ _ _ _) as e w' ⟨rfl, rfl⟩) | (go_at_call 39; go_call (within_no _ _ _ _) as e w' ⟨rfl, rfl⟩) | (go_at_call 41; go_call (isOwner_yes _ _) as e w' ⟨rfl, rfl⟩) | (go_at_call 41; go_call (isOwner_no _ _) as e w' ⟨rfl, rfl⟩))
            go_ret
            exact ⟨rfl, by go_grown⟩
        · have hP : ¬ fitP frame (o, f, n, e) := fun h => by unfold fitP at h; simp only at h; omega
          rw [decide_eq_false hP]
          clear hm hP
          go_enter Try.func65, Try.ntmps65
          go_wp2_with (first | (go_at_call 39; go_call (within_yes _ _ _ _) as e w' ⟨rfl, rfl⟩) | (go_at_call 39; go_call (within_no _ _ _ _) as e w' ⟨rfl, rfl⟩) | (go_at_call 41; go_call (isOwner_yes _ _) as e w' ⟨rfl, rfl⟩) | (go_at_call 41; go_call (isOwner_no _ _) as e w' ⟨rfl, rfl⟩))
          go_ret
          exact ⟨rfl, by go_grown⟩
      · have hP : ¬ fitP frame (o, f, n, e) := fun h => by unfold fitP at h; simp only at h; omega
        rw [decide_eq_false hP]
        clear hm hP
        go_enter Try.func65, Try.ntmps65
        go_wp2_with (first | (go_at_call 39; go_call (within_yes _ _ _ _) as e w' ⟨rfl, rfl⟩) | (go_at_call 39; go_call (within_no _ _ _ _) as e w' ⟨rfl, rfl⟩) | (go_at_call 41; go_call (isOwner_yes _ _) as e w' ⟨rfl, rfl⟩) | (go_at_call 41; go_call (isOwner_no _ _) as e w' ⟨rfl, rfl⟩))
        go_ret
        exact ⟨rfl, by go_grown⟩
    · have hm' : (frame % e != 0) = true := by simp [hm]
      have hP : ¬ fitP frame (o, f, n, e) := fun h => by unfold fitP at h; simp only at h; omega
      rw [decide_eq_false hP]
      clear hm hP
      go_enter Try.func65, Try.ntmps65
      go_wp2_with (first | (go_at_call 39; go_call (within_yes _ _ _ _) as e w' ⟨rfl, rfl⟩) | (go_at_call 39; go_call (within_no _ _ _ _) as e w' ⟨rfl, rfl⟩) | (go_at_call 41; go_call (isOwner_yes _ _) as e w' ⟨rfl, rfl⟩) | (go_at_call 41; go_call (isOwner_no _ _) as e w' ⟨rfl, rfl⟩))
      go_ret
      exact ⟨rfl, by go_grown⟩
  · have hP : ¬ fitP frame (o, f, n, e) := fun h => by unfold fitP at h; simp only at h; omega
    rw [decide_eq_false hP]
    clear hP
    go_enter Try.func65, Try.ntmps65
    go_wp2_with (first | (go_at_call 39; go_call (within_yes _ _ _ _) as e w' ⟨rfl, rfl⟩) | (go_at_call 39; go_call (within_no _ _ _ _) as e w' ⟨rfl, rfl⟩) | (go_at_call 41; go_call (isOwner_yes _ _) as e w' ⟨rfl, rfl⟩) | (go_at_call 41; go_call (isOwner_no _ _) as e w' ⟨rfl, rfl⟩))
    go_ret
    exact ⟨rfl, by go_grown⟩
theorem cw_arg (frame : Int) (a : Option Addr) (n cap : Nat) (w : World) (h : ¬ (1 ≤ frame ∧ frame ≤ 1000000)) :
    Calls Try.prog 45 #[.int .i64 frame, .slice a n cap] w fun e w' => e = .returned (.int .i64 1) ∧ Below w.heap.size w w' := by
  go_enter Try.func45, Try.ntmps45
  go_wp2_with (go_at_call 39; go_call (within_no _ _ _ _) as e w' ⟨rfl, rfl⟩)
  go_ret
  exact ⟨rfl, Below.refl _ _⟩
theorem cw_large (frame : Int) (a : Option Addr) (n cap : Nat) (w : World) (h1 : 1 ≤ frame) (h2 : frame ≤ 1000000) (h : 200 < n) :
    Calls Try.prog 45 #[.int .i64 frame, .slice a n cap] w fun e w' => e = .returned (.int .i64 2) ∧ Below w.heap.size w w' := by
  have hn : (200 : Int) < (n : Int) := by omega
  go_enter Try.func45, Try.ntmps45
  go_wp2_with (go_at_call 39; go_call (within_yes _ _ _ _) as e w' ⟨rfl, rfl⟩)
  go_ret
  exact ⟨rfl, Below.refl _ _⟩
set_option maxHeartbeats 800000 in
theorem cw_list (frame : Int) (a : Option Addr) (cap : Nat) (l : List Wnt) (w : World) (h1 : 1 ≤ frame) (h2 : frame ≤ 1000000) (h : ¬ 200 < l.length) (hr : Wts w a l) :
    Calls Try.prog 45 #[.int .i64 frame, .slice a l.length cap] w fun e w' => e = .returned (.int .i64 (wchkG frame l)) ∧ Below w.heap.size w w' := by
  have hn : ¬ (200 : Int) < (l.length : Int) := by omega
  have HR := hid hr
  clear hr
  go_enter Try.func45, Try.ntmps45
  go_wp2_with (go_at_call 39; refine (within_yes _ _ _ _ (by omega) (by omega)).mono ?_; rintro e w' ⟨rfl, hw⟩; replace hw := hw.symm; subst hw)
  go_loopw [5, 16] (fun v5 v16 wr => ∃ (k : Nat) (c : Int), k ≤ l.length ∧ v5 = .int .i64 c ∧ v16 = .int .i64 k ∧ Hid (c = cntW frame (l.take k)) ∧ Hid (fitAll frame (l.take k) = true) ∧ 0 ≤ c ∧ c ≤ 1000000 * k ∧ Below w.heap.size w wr) (fun _ v16 _ => l.length - (intOf v16).toNat)
  case atStart => exact ⟨0, 0, by omega, rfl, rfl, by show _ = _; simp [cntW], by show _ = _; simp [fitAll], by omega, by omega, Below.refl _ _⟩
  case round =>
    obtain ⟨k, c, hk, rfl, rfl, hc, hA, c0, c1, hb⟩ := hrel
    have HB := hid hb
    have hsz := hb.size
    by_cases hlt : k < l.length
    · obtain ⟨b, off, rfl, hbw, d1, d2, d3, d4⟩ := (HR.out.below hb (Nat.le_refl _)).at k hlt
      have hd := take_snoc z4 l k hlt
      have hmem : l.getD k z4 ∈ l := by simp [List.getD, hlt]
      clear hb
      generalize l.getD k z4 = z at d1 d2 d3 d4 hd hmem
      obtain ⟨o, f, n, e⟩ := z
      have Hd := hid hd
      have Hm := hid hmem
      clear hd hmem
      simp only at d1 d2 d3 d4
      have hfit := fits_any frame o f n e (wr.alloc (.cells #[.int .i64 o, .int .i64 f, .int .i64 n, .int .i64 e] 66)) h1 h2
      by_cases hP : fitP frame (o, f, n, e)
      · rw [decide_eq_true hP] at hfit
        have HFI := hid hfit
        have HP := hid hP
        have e1 : 1 ≤ e := hP.1.1
        obtain ⟨q1, q2⟩ := quot_bd (frame := frame) (e := e) (by omega) e1
        have HC : Hid (c + frame / e = cntW frame (l.take (k + 1))) := by
          show _ = _
          rw [Hd.out, cntW_append, hc.out]; simp [cntW]
        have HA : Hid (fitAll frame (l.take (k + 1)) = true) := by
          show _ = _
          rw [fitAll_iff, Hd.out]
          intro x hx
          rcases List.mem_append.1 hx with hx | hx
          · exact fitAll_iff.1 hA.out x hx
          · simp at hx; subst hx; exact HP.out
        clear hfit hP
        go_wp2_with fail
        refine HFI.out.mono ?_
        rintro r w2 ⟨rfl, hb2⟩
        have HB2 := hid (bel_al HB.out hsz hb2)
        have e0 := (hb2.cell (p := ⟨wr.heap.size, 3, none⟩) (by simp)).trans (World.cell?_alloc_at _ _ _ _ rfl)
        clear hb2
        go_wp2_with fail
        go_roundw
        case rel => exact ⟨k + 1, _, by omega, rfl, by go_num, HC, HA, by omega, by omega, HB2.out⟩
        case measure => simp [intOf]; omega
      · rw [decide_eq_false hP] at hfit
        have HFI := hid hfit
        have HF : Hid (wchkG frame l = 4) := by
          show _ = _
          unfold wchkG
          rw [if_neg]
          intro h
          exact hP (fitAll_iff.1 h _ Hm.out)
        clear hfit hP
        go_wp2_with fail
        refine HFI.out.mono ?_
        rintro r w2 ⟨rfl, hb2⟩
        have HB2 := hid (bel_al HB.out hsz hb2)
        clear hb2
        go_wp2_with fail
        go_ret
        exact ⟨ret_int HF.out.symm, HB2.out⟩
    · have he : l.take k = l := List.take_of_length_le (by omega)
      rw [he] at hc hA
      clear hb
      by_cases hc2 : 200 < c
      · have HF : Hid (wchkG frame l = 2) := by
          show _ = _
          unfold wchkG
          rw [if_pos hA.out, if_pos (by rw [← hc.out]; exact hc2)]
        go_wp2_with fail
        go_ret
        exact ⟨ret_int HF.out.symm, HB.out⟩
      · have HF : Hid (wchkG frame l = 0) := by
          show _ = _
          unfold wchkG
          rw [if_pos hA.out, if_neg (by rw [← hc.out]; exact hc2)]
        go_wp2_with fail
        go_ret
        exact ⟨ret_int HF.out.symm, HB.out⟩
theorem cw_any (frame : Int) (a : Option Addr) (cap : Nat) (l : List Wnt) (w : World) (hr : Wts w a l) :
    Calls Try.prog 45 #[.int .i64 frame, .slice a l.length cap] w fun e w' => e = .returned (.int .i64 (wchk frame l)) ∧ Below w.heap.size w w' := by
  unfold wchk
  split
  · split
    · exact cw_large frame a _ cap w (by omega) (by omega) (by omega)
    · exact cw_list frame a cap l w (by omega) (by omega) (by omega) hr
  · exact cw_arg frame a _ cap w (by omega)
end TabC
end Go.Proofs.Ytgehdpohiphcpaa
