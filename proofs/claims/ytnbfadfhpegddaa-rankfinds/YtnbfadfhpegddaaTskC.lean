/- Contracts of packages task and dutyref: within, Check, TasksRight. -/
import Derived.Test.YtnbfadfhpegddaaOpenTk
import Derived.Test.YtnbfadfhpegddaaSpanW
import Derived.Test.YtnbfadfhpegddaaTaskM
import Derived.Test.YtnbfadfhpegddaaNumR
set_option linter.unusedVariables false
namespace Go.Proofs.Ytnbfadfhpegddaa
open Go.RowKit hiding tok
open SpanM SpanC TaskM
open RowsO hiding Tk
namespace TaskC
theorem twithin_yes (x lo hi : Int) (w : World) (h1 : lo ≤ x) (h2 : x ≤ hi) :
    Calls Try.prog 48 #[.int .i64 x, .int .i64 lo, .int .i64 hi] w fun e w' => e = .returned (.bool true) ∧ w' = w := by
  go_enter Try.func48, Try.ntmps48
  go_wp2
  go_ret
  exact ⟨rfl, rfl⟩
theorem twithin_no (x lo hi : Int) (w : World) (h : ¬ (lo ≤ x ∧ x ≤ hi)) :
    Calls Try.prog 48 #[.int .i64 x, .int .i64 lo, .int .i64 hi] w fun e w' => e = .returned (.bool false) ∧ w' = w := by
  by_cases h1 : lo ≤ x
  · have h2 : ¬ x ≤ hi := fun k => h ⟨h1, k⟩
    clear h
    go_enter Try.func48, Try.ntmps48
    go_wp2
    go_ret
    exact ⟨rfl, rfl⟩
  · clear h
    go_enter Try.func48, Try.ntmps48
    go_wp2
    go_ret
    exact ⟨rfl, rfl⟩
instance (x : Tk) : Decidable (tok x) := by unfold tok; infer_instance
/-- what Check says -/
def tchkG (l : List Tk) : Int := if ∀ x ∈ l, tok x then 0 else 4
def tchk (l : List Tk) : Int := if 16 < l.length then 2 else tchkG l
theorem tchk_zero {l : List Tk} (h : tchk l = 0) : l.length ≤ 16 ∧ ∀ x ∈ l, tok x := by
  unfold tchk tchkG at h
  split at h
  · simp at h
  · split at h
    · exact ⟨by omega, ‹_›⟩
    · simp at h
theorem tchk_of {l : List Tk} (h1 : l.length ≤ 16) (h2 : ∀ x ∈ l, tok x) : tchk l = 0 := by
  unfold tchk tchkG
  rw [if_neg (by omega), if_pos h2]
theorem tchk_bd (l : List Tk) : 0 ≤ tchk l ∧ tchk l ≤ 4 := by
  unfold tchk tchkG
  split
  · omega
  · split <;> omega
theorem tk_snoc (l : List Tk) (k : Nat) (h : k < l.length) : l.take (k + 1) = l.take k ++ [l.getD k zTk] := by
  rw [List.take_succ_eq_append_getElem h]; simp [List.getD, h]
theorem tk_mem {l : List Tk} {k : Nat} (h : k < l.length) : l.getD k zTk ∈ l := by simp [List.getD, h]
theorem bel_al {w wr w' : World} {o : Obj} (h : Below w.heap.size w wr) (hb : Below (wr.alloc o).heap.size (wr.alloc o) w') : Below w.heap.size w w' :=
  (h.alloc h.size o).trans (hb.mono (by have := h.size; simp; omega))
theorem tcheck_large (a : Option Addr) (n cap : Nat) (w : World) (h : 16 < n) :
    Calls Try.prog 32 #[.slice a n cap] w fun e w' => e = .returned (.int .i64 2) ∧ Below w.heap.size w w' := by
  have hn : (16 : Int) < (n : Int) := by omega
  go_enter Try.func32, Try.ntmps32
  go_wp2_with fail
  go_ret
  exact ⟨rfl, Below.refl _ _⟩
set_option maxHeartbeats 800000 in
theorem tcheck_list (a : Option Addr) (cap : Nat) (l : List Tk) (w : World) (h : ¬ 16 < l.length) (hr : Tks w a l) :
    Calls Try.prog 32 #[.slice a l.length cap] w fun e w' => e = .returned (.int .i64 (tchkG l)) ∧ Below w.heap.size w w' := by
  have hn : ¬ (16 : Int) < (l.length : Int) := by omega
  have HR := hid hr
  clear hr
  go_enter Try.func32, Try.ntmps32
  go_wp2_with fail
  go_loopw [10] (fun v10 wr => ∃ k : Nat, k ≤ l.length ∧ v10 = .int .i64 k ∧ Hid (∀ x ∈ l.take k, tok x) ∧ Below w.heap.size w wr) (fun v10 _ => l.length - (intOf v10).toNat)
  case atStart => exact ⟨0, by omega, rfl, by intro x hx; simp at hx, Below.refl _ _⟩
  case round =>
    obtain ⟨k, hk, rfl, hA, hb⟩ := hrel
    have HB := hid hb
    have hsz := hb.size
    by_cases hlt : k < l.length
    · obtain ⟨b, off, rfl, hbw, d1, d2, d3⟩ := (HR.out.below hb (Nat.le_refl _)).at k hlt
      have hd := tk_snoc l k hlt
      have hmem := tk_mem hlt
      clear hb
      generalize l.getD k zTk = z at d1 d2 d3 hd hmem
      obtain ⟨n, e, d⟩ := z
      have Hd := hid hd
      have Hm := hid hmem
      clear hd hmem
      simp only at d1 d2 d3
      by_cases hP : tok (n, e, d)
      · have HA : Hid (∀ x ∈ l.take (k + 1), tok x) := by
          show ∀ x ∈ _, _
          rw [Hd.out]
          intro x hx
          rcases List.mem_append.1 hx with hx | hx
          · exact hA.out x hx
          · simp at hx; subst hx; exact hP
        obtain ⟨p1, p2, p3, p4, p5, p6⟩ := hP
        simp only at p1 p2 p3 p4 p5 p6
        go_wp2_with (first | (go_at_call 48; go_call (twithin_yes _ _ _ _) as e w' ⟨rfl, rfl⟩))
        go_roundw
        case rel => exact ⟨k + 1, by omega, by go_num, HA, by have := HB.out; go_grown⟩
        case measure => simp [intOf]; omega
      · have HF : Hid (tchkG l = 4) := by
          show _ = _
          unfold tchkG
          rw [if_neg]
          intro h
          exact hP (h _ Hm.out)
        have C : (¬ (1 ≤ e ∧ e ≤ 10000)) ∨ ((1 ≤ e ∧ e ≤ 10000) ∧ ¬ (1 ≤ d ∧ d ≤ e)) ∨ ((1 ≤ e ∧ e ≤ 10000) ∧ (1 ≤ d ∧ d ≤ e) ∧ ¬ (1 ≤ n ∧ n ≤ d)) := by
          unfold TaskM.tok at hP; simp only at hP; omega
        clear hP
        rcases C with o1 | ⟨⟨o1, o2⟩, o3⟩ | ⟨⟨o1, o2⟩, ⟨o3, o4⟩, o5⟩
        all_goals
          go_wp2_with (first | (go_at_call 48; go_call (twithin_yes _ _ _ _) as e w' ⟨rfl, rfl⟩) | (go_at_call 48; go_call (twithin_no _ _ _ _) as e w' ⟨rfl, rfl⟩))
          go_ret
          exact ⟨SpanC.ret_int HF.out.symm, by have := HB.out; go_grown⟩
    · have he : l.take k = l := List.take_of_length_le (by omega)
      rw [he] at hA
      have HF : Hid (tchkG l = 0) := by
        show _ = _
        unfold tchkG
        rw [if_pos hA.out]
      clear hb
      go_wp2_with fail
      go_ret
      exact ⟨SpanC.ret_int HF.out.symm, HB.out⟩
theorem tcheck_any (a : Option Addr) (cap : Nat) (l : List Tk) (w : World) (hr : Tks w a l) :
    Calls Try.prog 32 #[.slice a l.length cap] w fun e w' => e = .returned (.int .i64 (tchk l)) ∧ Below w.heap.size w w' := by
  unfold tchk
  split
  · exact tcheck_large a _ cap w (by omega)
  · exact tcheck_list a cap l w (by omega) hr
theorem tright_large (a : Option Addr) (n cap : Nat) (w : World) (h : 16 < n) :
    Calls Try.prog 13 #[.slice a n cap] w fun e w' => e = .returned (.int .i64 2) ∧ Below w.heap.size w w' := by
  have hn : (16 : Int) < (n : Int) := by omega
  go_enter Try.func13, Try.ntmps13
  go_wp2_with fail
  go_ret
  exact ⟨rfl, Below.refl _ _⟩
set_option maxHeartbeats 800000 in
theorem tright_list (a : Option Addr) (cap : Nat) (l : List Tk) (w : World) (h : ¬ 16 < l.length) (hr : Tks w a l) :
    Calls Try.prog 13 #[.slice a l.length cap] w fun e w' => e = .returned (.int .i64 (tchkG l)) ∧ Below w.heap.size w w' := by
  have hn : ¬ (16 : Int) < (l.length : Int) := by omega
  have HR := hid hr
  clear hr
  go_enter Try.func13, Try.ntmps13
  go_wp2_with fail
  go_loopw [10] (fun v10 wr => ∃ k : Nat, k ≤ l.length ∧ v10 = .int .i64 k ∧ Hid (∀ x ∈ l.take k, tok x) ∧ Below w.heap.size w wr) (fun v10 _ => l.length - (intOf v10).toNat)
  case atStart => exact ⟨0, by omega, rfl, by intro x hx; simp at hx, Below.refl _ _⟩
  case round =>
    obtain ⟨k, hk, rfl, hA, hb⟩ := hrel
    have HB := hid hb
    have hsz := hb.size
    by_cases hlt : k < l.length
    · obtain ⟨b, off, rfl, hbw, d1, d2, d3⟩ := (HR.out.below hb (Nat.le_refl _)).at k hlt
      have hd := tk_snoc l k hlt
      have hmem := tk_mem hlt
      clear hb
      generalize l.getD k zTk = z at d1 d2 d3 hd hmem
      obtain ⟨n, e, d⟩ := z
      have Hd := hid hd
      have Hm := hid hmem
      clear hd hmem
      simp only at d1 d2 d3
      by_cases hP : tok (n, e, d)
      · have HA : Hid (∀ x ∈ l.take (k + 1), tok x) := by
          show ∀ x ∈ _, _
          rw [Hd.out]
          intro x hx
          rcases List.mem_append.1 hx with hx | hx
          · exact hA.out x hx
          · simp at hx; subst hx; exact hP
        obtain ⟨p1, p2, p3, p4, p5, p6⟩ := hP
        simp only at p1 p2 p3 p4 p5 p6
        go_wp2_with (first | (go_at_call 36; go_call (NumC.between_yes _ _ _ _) as e w' ⟨rfl, rfl⟩))
        go_roundw
        case rel => exact ⟨k + 1, by omega, by go_num, HA, by have := HB.out; go_grown⟩
        case measure => simp [intOf]; omega
      · have HF : Hid (tchkG l = 4) := by
          show _ = _
          unfold tchkG
          rw [if_neg]
          intro h
          exact hP (h _ Hm.out)
        have C : (¬ (1 ≤ e ∧ e ≤ 10000)) ∨ ((1 ≤ e ∧ e ≤ 10000) ∧ ¬ (1 ≤ d ∧ d ≤ e)) ∨ ((1 ≤ e ∧ e ≤ 10000) ∧ (1 ≤ d ∧ d ≤ e) ∧ ¬ (1 ≤ n ∧ n ≤ d)) := by
          unfold TaskM.tok at hP; simp only at hP; omega
        clear hP
        rcases C with o1 | ⟨⟨o1, o2⟩, o3⟩ | ⟨⟨o1, o2⟩, ⟨o3, o4⟩, o5⟩
        all_goals
          go_wp2_with (first | (go_at_call 36; go_call (NumC.between_yes _ _ _ _) as e w' ⟨rfl, rfl⟩) | (go_at_call 36; go_call (NumC.between_no _ _ _ _) as e w' ⟨rfl, rfl⟩))
          go_ret
          exact ⟨SpanC.ret_int HF.out.symm, by have := HB.out; go_grown⟩
    · have he : l.take k = l := List.take_of_length_le (by omega)
      rw [he] at hA
      have HF : Hid (tchkG l = 0) := by
        show _ = _
        unfold tchkG
        rw [if_pos hA.out]
      clear hb
      go_wp2_with fail
      go_ret
      exact ⟨SpanC.ret_int HF.out.symm, HB.out⟩
theorem tright_any (a : Option Addr) (cap : Nat) (l : List Tk) (w : World) (hr : Tks w a l) :
    Calls Try.prog 13 #[.slice a l.length cap] w fun e w' => e = .returned (.int .i64 (tchk l)) ∧ Below w.heap.size w w' := by
  unfold tchk
  split
  · exact tright_large a _ cap w (by omega)
  · exact tright_list a cap l w (by omega) hr
end TaskC
end Go.Proofs.Ytnbfadfhpegddaa
