/- Package lock: urgency. -/
import Derived.Test.YtllfpbngfkimlaaLkD
set_option linter.unusedVariables false
namespace Go.Proofs.Ytllfpbngfkimlaa
open Go.RowKit
open Go.Shelf Go.Sort
open SpanM SpanC IntsC
open RowsO hiding Wk
namespace LockC
open LockM
open NumC (Row)
variable {W : World} {B sb g cap : Nat} {cl own : List Int} {ws : List Wr}
theorem min_nat (a b : Nat) : min (a : Int) (b : Int) = ((min a b : Nat) : Int) := by omega
/-- what a loop over all locks keeps -/
structure UrgK (C : Int → Nat) (own : List Int) (b k u : Nat) : Prop where
  le : u ≤ b
  all : ∀ j : Nat, j < k → own.getD j 0 = (b : Int) → u ≤ C (j : Int)
  one : u = b ∨ ∃ j : Nat, j < k ∧ own.getD j 0 = (b : Int) ∧ u = C (j : Int)
theorem UrgK.start (C : Int → Nat) (own : List Int) (b : Nat) : UrgK C own b 0 b := ⟨Nat.le_refl _, fun j h => by omega, .inl rfl⟩
theorem UrgK.other {C : Int → Nat} {own : List Int} {b k u : Nat} (h : UrgK C own b k u) (ho : own.getD k 0 ≠ (b : Int)) : UrgK C own b (k + 1) u :=
  ⟨h.le, fun j hj e => by
    rcases Nat.lt_or_ge j k with q | q
    · exact h.all j q e
    · have : j = k := by omega
      subst this; exact absurd e ho, by
    rcases h.one with e | ⟨j, j1, j2, j3⟩
    · exact .inl e
    · exact .inr ⟨j, by omega, j2, j3⟩⟩
theorem UrgK.mine {C : Int → Nat} {own : List Int} {b k u : Nat} (h : UrgK C own b k u) (ho : own.getD k 0 = (b : Int)) : UrgK C own b (k + 1) (min u (C (k : Int))) := by
  have hle := h.le
  refine ⟨by omega, fun j hj e => ?_, ?_⟩
  · rcases Nat.lt_or_ge j k with q | q
    · have := h.all j q e; omega
    · have : j = k := by omega
      subst this; omega
  · rcases Nat.le_total u (C (k : Int)) with q | q
    · rw [Nat.min_eq_left q]
      rcases h.one with e | ⟨j, j1, j2, j3⟩
      · exact .inl e
      · exact .inr ⟨j, by omega, j2, j3⟩
    · rw [Nat.min_eq_right q]
      exact .inr ⟨k, by omega, ho, rfl⟩
theorem UrgK.done {C : Int → Nat} {own : List Int} {n b u : Nat} {S : Nat → List Int} (o : Ow n S own) (hb : b < n) (h8 : ∀ k ∈ S b, 0 ≤ k ∧ k ≤ 7) (h : UrgK C own b 8 u) : urg C b (S b) = u := by
  refine urg_eq h.le (fun k hk => ?_) ?_
  · have := h8 k hk
    obtain ⟨j, rfl⟩ : ∃ j : Nat, k = (j : Int) := ⟨k.toNat, by omega⟩
    exact h.all j (by omega) ((o.isIt j (by omega) b hb).2 hk)
  · rcases h.one with e | ⟨j, j1, j2, j3⟩
    · exact .inl e
    · exact .inr ⟨j, (o.isIt j j1 b hb).1 j2, j3⟩
theorem index8 (o0 o1 o2 o3 o4 o5 o6 o7 : Int) (k : Nat) (hk : k < 8) (w : World) : Sem.run Try.prog (Instr.index 62 (.agg #[.int .i64 o0, .int .i64 o1, .int .i64 o2, .int .i64 o3, .int .i64 o4, .int .i64 o5, .int .i64 o6, .int .i64 o7]) (.int .i64 (k : Int))) w = .ok (.int .i64 ([o0, o1, o2, o3, o4, o5, o6, o7].getD k 0)) w := by
  rcases (show k = 0 ∨ k = 1 ∨ k = 2 ∨ k = 3 ∨ k = 4 ∨ k = 5 ∨ k = 6 ∨ k = 7 by omega) with rfl | rfl | rfl | rfl | rfl | rfl | rfl | rfl
  · kernel_rfl
  · kernel_rfl
  · kernel_rfl
  · kernel_rfl
  · kernel_rfl
  · kernel_rfl
  · kernel_rfl
  · kernel_rfl
set_option maxRecDepth 20000 in
set_option maxHeartbeats 400000 in
theorem urgency_any (h : Sit W B sb g cap cl own ws) (b : Nat) (hb : b < ws.length) (hb8 : b < 8) (hnum : ws[b].num = b) (l : List LockM.Wk) (hcl : cl = ceils l) (S : Nat → List Int) (o : Ow ws.length S own) (h8 : ∀ k ∈ S b, 0 ≤ k ∧ k ≤ 7) (hcb : ∀ k ∈ S b, ceil l k < l.length) (hl8 : l.length ≤ 8) :
    Calls Try.prog 58 #[.pointer (some ⟨sb, 0, none⟩), .pointer (some ⟨g, b * 5, none⟩)] W fun e W' => e = .returned (.int .i64 ((urg (ceil l) b (S b) : Nat) : Int)) ∧ W' = W := by
  have HO := hid o
  have H8 := hid h8
  have HCB := hid hcb
  have HB := hid hb
  have HS := hid h
  have c2 := (h.wat hb).c2
  rw [hnum] at c2
  have hcc := hid (fun k (hk : k < 8) => h.cc hk)
  match own, h.owl, o, h, HO, HS with
  | [o0, o1, o2, o3, o4, o5, o6, o7], _, o, h, HO, HS =>
    have q0 := h.co (k := 0) (by decide)
    have q1 := h.co (k := 1) (by decide)
    have q2 := h.co (k := 2) (by decide)
    have q3 := h.co (k := 3) (by decide)
    have q4 := h.co (k := 4) (by decide)
    have q5 := h.co (k := 5) (by decide)
    have q6 := h.co (k := 6) (by decide)
    have q7 := h.co (k := 7) (by decide)
    simp at q0 q1 q2 q3 q4 q5 q6 q7
    clear o h h8 hcb hb hnum
    go_enter Try.func58, Try.ntmps58
    go_wp2_with fail
    go_loopw [5, 16] (fun v5 v16 wr => ∃ (k u : Nat), k ≤ 8 ∧ v16 = .int .i64 k ∧ v5 = .int .i64 u ∧ wr = W ∧ Hid (UrgK (ceil l) [o0, o1, o2, o3, o4, o5, o6, o7] b k u)) (fun _ v16 _ => 8 - (intOf v16).toNat)
    case atStart => exact ⟨0, b, by omega, rfl, rfl, rfl, UrgK.start _ _ _⟩
    case round =>
      obtain ⟨k, u, hk, rfl, rfl, rfl, hu⟩ := hrel
      have hub := hid hu.out.le
      by_cases hlt : k < 8
      · have i1 : (k : Int) < 8 := by omega
        have hx := index8 o0 o1 o2 o3 o4 o5 o6 o7 k hlt wr
        have hc1 := hcc.out k hlt
        have hother := hid (fun e => hu.out.other (k := k) e)
        have hmine := hid (fun e => hu.out.mine (k := k) e)
        have hisit := hid (fun (e : [o0, o1, o2, o3, o4, o5, o6, o7].getD k 0 = (b : Int)) => (HO.out.isIt k hlt b HB.out).1 e)
        generalize [o0, o1, o2, o3, o4, o5, o6, o7].getD k 0 = z at *
        by_cases hz : z = (b : Int)
        · have e1 : (z == (b : Int)) = true := by simp [hz]
          have hin := hisit.out hz
          have hcv : cl.getD k 0 = ((ceil l (k : Int) : Nat) : Int) := by rw [hcl, ceils_at l hlt, ceilI, if_pos (HCB.out _ hin)]
          rw [hcv] at hc1
          have hcl9 := HCB.out _ hin
          have HU := hid (hmine.out hz)
          have hmn := min_nat u (ceil l (k : Int))
          clear hz
          go_wp2_with fail
          go_roundw
          case rel => exact ⟨k + 1, min u (ceil l (k : Int)), by omega, by go_num, by go_num, trivial, HU⟩
          case measure => simp [intOf]; omega
        · have e1 : (z == (b : Int)) = false := by simp [hz]
          have HU := hid (hother.out hz)
          clear hz
          go_wp2_with fail
          go_roundw
          case rel => exact ⟨k + 1, u, by omega, by go_num, rfl, trivial, HU⟩
          case measure => simp [intOf]; omega
      · have i1 : ¬ (k : Int) < 8 := by omega
        go_wp2_with fail
        go_ret
        obtain rfl : k = 8 := by omega
        exact ⟨by rw [UrgK.done HO.out HB.out H8.out hu.out]; rfl, rfl⟩
end LockC
end Go.Proofs.Ytllfpbngfkimlaa
