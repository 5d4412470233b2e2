/- Contracts of package table: Owner. -/
import Derived.Test.YtgehdpohiphcpaaTabB
set_option linter.unusedVariables false
namespace Go.Proofs.Ytgehdpohiphcpaa
open Go.RowKit
open SpanM SpanC TabM
namespace TabC
theorem owner_err (size t : Int) (a : Option Addr) (cap : Nat) (l : List Win) (w : World) (hr : Wns w a l) (hk : tchk size l ≠ 0) :
    Calls Try.prog 11 #[.agg #[.int .i64 size, .slice a l.length cap], .int .i64 t] w fun e w' => e = .returned (.tuple #[.int .i64 0, .int .i64 (tchk size l)]) ∧ Below w.heap.size w w' := by
  have hc := fun W (h : Below w.heap.size w W) => check_any size a cap l W (hr.below h (Nat.le_refl _))
  have hne : (tchk size l != 0) = true := by simp [hk]
  clear hr hk
  generalize tchk size l = c at hc hne ⊢
  have HC := hid hc
  clear hc
  go_enter Try.func11, Try.ntmps11
  go_wp2_with (go_at_call 17; refine (HC.out _ (by go_grown)).mono ?_; rintro e w' ⟨rfl, hb⟩)
  go_ret2
  exact ⟨rfl, bel_of (by go_grown) hb⟩
theorem owner_arg (size t : Int) (a : Option Addr) (cap : Nat) (l : List Win) (w : World) (hr : Wns w a l) (hk : tchk size l = 0) (ht : ¬ (0 ≤ t ∧ t ≤ 1099511627776)) :
    Calls Try.prog 11 #[.agg #[.int .i64 size, .slice a l.length cap], .int .i64 t] w fun e w' => e = .returned (.tuple #[.int .i64 0, .int .i64 1]) ∧ Below w.heap.size w w' := by
  have HC := hid (fun W (h : Below w.heap.size w W) => check_ok size a cap l W (hr.below h (Nat.le_refl _)) hk)
  clear hr hk
  go_enter Try.func11, Try.ntmps11
  go_wp2_with (first | (go_at_call 17; refine (HC.out _ (by go_grown)).mono ?_; rintro e w' ⟨rfl, hb⟩) | (go_at_call 39; go_call (within_no _ _ _ _) as e w' ⟨rfl, rfl⟩))
  go_ret2
  exact ⟨rfl, bel_of (by go_grown) hb⟩
theorem wown_drop {l : List Win} {k : Nat} {t : Int} (h : k < l.length) : wown (l.drop k) t = if inW (l.getD k z3) t then (l.getD k z3).2.2 else wown (l.drop (k + 1)) t := by
  rw [drop_get z3 l k h]; rfl
set_option maxHeartbeats 800000 in
theorem owner_ok (size t : Int) (a : Option Addr) (cap : Nat) (l : List Win) (w : World) (hr : Wns w a l) (hk : tchk size l = 0) (ht : 0 ≤ t) (ht2 : t ≤ 1099511627776) :
    Calls Try.prog 11 #[.agg #[.int .i64 size, .slice a l.length cap], .int .i64 t] w fun e w' => e = .returned (.tuple #[.int .i64 (wown l (t % size)), .int .i64 0]) ∧ Below w.heap.size w w' := by
  have HC := hid (fun W (h : Below w.heap.size w W) => check_ok size a cap l W (hr.below h (Nat.le_refl _)) hk)
  obtain ⟨s1, s2, s3, s4⟩ := tchk_zero hk
  have m1 := Int.emod_nonneg t (show size ≠ 0 by omega)
  have m2 := Int.emod_lt_of_pos t (show 0 < size by omega)
  have HG := hid (wgood_each s4)
  have HR := hid hr
  clear hr hk s4
  generalize hM : wown l (t % size) = M
  have HM := hid hM
  clear hM
  go_enter Try.func11, Try.ntmps11
  go_wp2_with (first | (go_at_call 17; refine (HC.out _ (by go_grown)).mono ?_; rintro e w1 ⟨rfl, hb1⟩; have hc1 := (hb1.cell (p := ⟨w.heap.size, 0, none⟩) (by simp)).trans (World.cell?_alloc_at _ _ _ _ rfl); have hc2 := (hb1.cell (p := ⟨w.heap.size, 1, none⟩) (by simp)).trans (World.cell?_alloc_at _ _ _ _ rfl)) | (go_at_call 39; go_call (within_yes _ _ _ _) as e w' ⟨rfl, rfl⟩))
  have hb0 : Below (w.heap.size + 1) (w.alloc (.cells #[.int .i64 size, .slice a l.length cap] 24)) w' := by simpa using hb1
  have HB0 := hid hb0
  clear hb1 hb0 hc1 hc2
  go_loopw [25] (fun v25 wr => ∃ (k : Nat), k ≤ l.length ∧ v25 = .int .i64 k ∧ Hid (wown (l.drop k) (t % size) = M) ∧ Below (w.heap.size + 1) (w.alloc (.cells #[.int .i64 size, .slice a l.length cap] 24)) wr) (fun v25 _ => l.length - (intOf v25).toNat)
  case atStart => exact ⟨0, by omega, rfl, by simpa using HM, HB0.out⟩
  case round =>
    obtain ⟨k, hk, rfl, hg, hb⟩ := hrel
    have hB := hid hb
    have hsz := hb.size
    simp only [World.size_alloc] at hsz
    by_cases hlt : k < l.length
    · obtain ⟨b, off, rfl, hbw, d1, d2, d3⟩ := HR.out.get hb k hlt
      have hge := HG.out (l.getD k z3) (by simp [List.getD, hlt])
      have hd := wown_drop (t := t % size) hlt
      clear hb
      generalize hz : l.getD k z3 = z at d1 d2 d3 hd hge
      obtain ⟨f, n, o⟩ := z
      have Hd := hid hd
      clear hz hd
      simp only [wfit] at d1 d2 d3 hge
      obtain ⟨g1, g2, g3, g4, g5⟩ := hge
      have c0 : (wr.alloc (.cells #[.int .i64 f, .int .i64 n, .int .i64 o] 50)).cell? ⟨wr.heap.size, 0, none⟩ = some (.int .i64 f) := World.cell?_alloc_at _ _ _ _ rfl
      have c1 : (wr.alloc (.cells #[.int .i64 f, .int .i64 n, .int .i64 o] 50)).cell? ⟨wr.heap.size, 1, none⟩ = some (.int .i64 n) := World.cell?_alloc_at _ _ _ _ rfl
      have c2 : (wr.alloc (.cells #[.int .i64 f, .int .i64 n, .int .i64 o] 50)).cell? ⟨wr.heap.size, 2, none⟩ = some (.int .i64 o) := World.cell?_alloc_at _ _ _ _ rfl
      have HC2 := hid c2
      have p0 := BelowOf.cell c0
      have p1 := BelowOf.cell c1
      have p2 := BelowOf.cell c2
      clear c0 c1 c2
      by_cases ho : f ≤ t % size ∧ t % size ≤ f + n - 1
      · have HF : Hid (M = o) := by
          show _ = _
          rw [← hg.out, Hd.out, if_pos (by unfold inW; simp only; omega)]
        go_wp2_with fail
        refine wp_region_quiet_below (by kernel_rfl) (by kernel_rfl) ?_
        repeat (quiet_step (first | (rename_i p; refine Calls.below_of p (endOf_any _ _ _ _ (by omega) (by omega))) | (rename_i p; refine Calls.below_of p (Calls.same (within_yes _ _ _ _ (by omega) (by simp (disch := omega) only [IntWalk.i64_in]; omega))))))
        refine wpQuiet_nil ?_
        rintro _ ⟨⟨wq, hbq⟩, rfl⟩
        have HBQ := hid (bel_al (of_alloc hB.out) (by omega) hbq)
        have e2 := (hbq.cell (p := ⟨wr.heap.size, 2, none⟩) (by simp)).trans HC2.out
        clear hbq p0 p1 p2
        go_wp2_with fail
        go_ret2
        exact ⟨by rw [HF.out]; rfl, HBQ.out⟩
      · have HF : Hid (wown (l.drop (k + 1)) (t % size) = M) := by
          show _ = _
          rw [← hg.out, Hd.out, if_neg (by unfold inW; simp only; omega)]
        go_wp2_with fail
        refine wp_region_quiet_below (by kernel_rfl) (by kernel_rfl) ?_
        repeat (quiet_step (first | (rename_i p; refine Calls.below_of p (endOf_any _ _ _ _ (by omega) (by omega))) | (rename_i p; refine Calls.below_of p (Calls.same (within_no _ _ _ _ (by simp (disch := omega) only [IntWalk.i64_in]; omega))))))
        refine wpQuiet_nil ?_
        rintro _ ⟨⟨wq, hbq⟩, rfl⟩
        have HBQ := hid (bel_al hB.out (by omega) hbq)
        clear hbq p0 p1 p2
        go_wp2_with fail
        go_roundw
        case rel => exact ⟨k + 1, by omega, by go_num, HF, HBQ.out⟩
        case measure => simp [intOf]; omega
    · have HF : Hid (M = -1) := by
        show _ = _
        rw [← hg.out, List.drop_of_length_le (by omega)]; rfl
      clear hb
      go_wp2_with fail
      go_ret2
      exact ⟨by rw [HF.out]; rfl, of_alloc hB.out⟩
/-- what Owner tells -/
def ownE (size t : Int) (l : List Win) : Int := if tchk size l = 0 then (if 0 ≤ t ∧ t ≤ 1099511627776 then 0 else 1) else tchk size l
def ownV (size t : Int) (l : List Win) : Int := if ownE size t l = 0 then wown l (t % size) else 0
theorem owner_any (size t : Int) (a : Option Addr) (cap : Nat) (l : List Win) (w : World) (hr : Wns w a l) :
    Calls Try.prog 11 #[.agg #[.int .i64 size, .slice a l.length cap], .int .i64 t] w fun e w' => e = .returned (.tuple #[.int .i64 (ownV size t l), .int .i64 (ownE size t l)]) ∧ Below w.heap.size w w' := by
  unfold ownV ownE
  by_cases h : tchk size l = 0
  · by_cases h2 : 0 ≤ t ∧ t ≤ 1099511627776
    · rw [if_pos h, if_pos h2, if_pos rfl]
      exact owner_ok size t a cap l w hr h h2.1 h2.2
    · rw [if_pos h, if_neg h2, if_neg (by omega)]
      exact owner_arg size t a cap l w hr h h2
  · rw [if_neg h, if_neg h]
    exact owner_err size t a cap l w hr h
end TabC
end Go.Proofs.Ytgehdpohiphcpaa
