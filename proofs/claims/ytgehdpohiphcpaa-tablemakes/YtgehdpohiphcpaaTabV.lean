/- Contracts of package table: Turns. -/
import Derived.Test.YtgehdpohiphcpaaTabU
set_option linter.unusedVariables false
namespace Go.Proofs.Ytgehdpohiphcpaa
open Go.RowKit
open SpanM SpanC TabM
namespace TabC
theorem turns_err (size f t : Int) (a : Option Addr) (cap : Nat) (l : List Win) (w : World) (hr : Wns w a l) (hk : tchk size l ≠ 0) :
    Calls Try.prog 22 #[.agg #[.int .i64 size, .slice a l.length cap], .int .i64 f, .int .i64 t] w fun e w' => e = .returned (.tuple #[.slice none 0 0, .int .i64 (tchk size l)]) ∧ Below w.heap.size w w' := by
  have hc := fun W (h : Below w.heap.size w W) => check_any size a cap l W (hr.below h (Nat.le_refl _))
  have hne : (tchk size l != 0) = true := by simp [hk]
  clear hr hk
  generalize tchk size l = c at hc hne ⊢
  have HC := hid hc
  clear hc
  go_enter Try.func22, Try.ntmps22
  go_wp2_with (go_at_call 17; refine (HC.out _ (by go_grown)).mono ?_; rintro e w' ⟨rfl, hb⟩)
  go_ret2
  exact ⟨rfl, bel_of (by go_grown) hb⟩
theorem turns_arg (size f t : Int) (a : Option Addr) (cap : Nat) (l : List Win) (w : World) (hr : Wns w a l) (hk : tchk size l = 0) (ht : ¬ (0 ≤ f ∧ f ≤ t ∧ t ≤ 1099511627776)) :
    Calls Try.prog 22 #[.agg #[.int .i64 size, .slice a l.length cap], .int .i64 f, .int .i64 t] w fun e w' => e = .returned (.tuple #[.slice none 0 0, .int .i64 1]) ∧ Below w.heap.size w w' := by
  have HC := hid (fun W (h : Below w.heap.size w W) => check_ok size a cap l W (hr.below h (Nat.le_refl _)) hk)
  clear hr hk
  have C : ¬ (0 ≤ f ∧ f ≤ t) ∨ (0 ≤ f ∧ f ≤ t ∧ 1099511627776 < t) := by omega
  clear ht
  rcases C with h1 | ⟨h1, h2, h3⟩
  all_goals
    go_enter Try.func22, Try.ntmps22
    go_wp2_with (first | (go_at_call 17; refine (HC.out _ (by go_grown)).mono ?_; rintro e w' ⟨rfl, hb⟩) | (go_at_call 39; go_call (within_yes _ _ _ _) as e w' ⟨rfl, rfl⟩) | (go_at_call 39; go_call (within_no _ _ _ _) as e w' ⟨rfl, rfl⟩))
    go_ret2
    exact ⟨rfl, bel_of (by go_grown) hb⟩
/-- what Turns tells -/
def TurnsTold (size f t : Int) (l : List Win) (B : Nat) (e : Ending) (w' : World) : Prop :=
  (∃ v L, e = .returned (.tuple #[v, .int .i64 0]) ∧ OwnW w' B v L ∧ Rle (wat size l) none f L t ∧ L.length ≤ 400) ∨
  (e = .returned (.tuple #[.slice none 0 0, .int .i64 2]) ∧ ∃ c M, c ≤ t ∧ Rle (wat size l) none f M c ∧ 400 < M.length)
theorem mod_base {size base t : Int} (hs : 1 ≤ size) (hb : base % size = 0) (h0 : 0 ≤ t - base) (h1 : t - base < size) : t % size = t - base := by
  have e : t = (t - base) + base := by omega
  rw [e, Int.add_emod, hb, Int.add_zero, Int.emod_emod_of_dvd _ (Int.dvd_refl _), Int.emod_eq_of_lt h0 h1]
  omega
theorem mod_next {size base : Int} (hb : base % size = 0) : (base + size) % size = 0 := by rw [Int.add_emod_right, hb]
theorem mod_start {size t : Int} : (t - t % size) % size = 0 := by
  have := Int.emod_add_mul_ediv t size
  have e : t - t % size = size * (t / size) := by omega
  rw [e, Int.mul_emod_right]
set_option maxRecDepth 20000 in
set_option maxHeartbeats 3200000 in
theorem turns_ok (size f t : Int) (a : Option Addr) (cap : Nat) (l : List Win) (w : World) (hr : Wns w a l) (hk : tchk size l = 0) (h1 : 0 ≤ f) (h2 : f ≤ t) (h3 : t ≤ 1099511627776) :
    Calls Try.prog 22 #[.agg #[.int .i64 size, .slice a l.length cap], .int .i64 f, .int .i64 t] w fun e w' => TurnsTold size f t l w.heap.size e w' ∧ Below w.heap.size w w' := by
  have HC := hid (fun W (h : Below w.heap.size w W) => check_ok size a cap l W (hr.below h (Nat.le_refl _)) hk)
  have HT := hid (fun W (h : Below w.heap.size w W) => tof_any size a cap l W (hr.below h (Nat.le_refl _)) hk)
  obtain ⟨s1, s2, s3, s4⟩ := tchk_zero hk
  have m1 := Int.emod_nonneg f (show size ≠ 0 by omega)
  have m2 := Int.emod_lt_of_pos f (show 0 < size by omega)
  have m3 : f % size ≤ f := by
    have m3 := Int.emod_add_mul_ediv f size
    have q0 : 0 ≤ f / size := Int.ediv_nonneg h1 (by omega)
    have := Int.mul_nonneg (show 0 ≤ size by omega) q0
    omega
  clear hr hk s4
  go_enter Try.func22, Try.ntmps22
  go_wp2_with fail
  refine (HC.out _ (by go_grown)).mono ?_
  rintro e w1 ⟨rfl, hb1⟩
  have hs1 := hb1.size
  simp only [World.size_alloc] at hs1
  have d0 := (hb1.cell (p := ⟨w.heap.size, 0, none⟩) (by simp)).trans (World.cell?_alloc_at _ _ _ _ rfl)
  have d1 := (hb1.cell (p := ⟨w.heap.size, 1, none⟩) (by simp)).trans (World.cell?_alloc_at _ _ _ _ rfl)
  have HB1 := hid (of_alloc (box1 hb1))
  clear hb1
  go_wp2_with (first | (go_at_call 39; go_call (within_yes _ _ _ _) as e w' ⟨rfl, rfl⟩))
  refine (HT.out _ HB1.out).mono ?_
  rintro e w2 ⟨⟨vF, F, rfl, hoF, hRF, hlF⟩, hb2⟩
  have hs2 := hb2.size
  have D0 := (hb2.cell (p := ⟨w.heap.size, 0, none⟩) (by simp; omega)).trans d0
  have D1 := (hb2.cell (p := ⟨w.heap.size, 1, none⟩) (by simp; omega)).trans d1
  have HB2 := hid (bel_of HB1.out hb2)
  have HRF := hid hRF
  have hFx : ∀ x ∈ F, x.1 ≤ 9223372036854775807 := fun x hx => by
    obtain ⟨q1, q2, q3, _⟩ := hRF.each x hx
    omega
  obtain ⟨aF, cF, hvF, hwF, _⟩ := hoF.wns hFx
  subst hvF
  have HWF := hid hwF
  clear hb2 d0 d1 hRF hFx hoF hwF
  by_cases hF1 : F.length = 1
  · obtain ⟨x, hx⟩ : ∃ x, F = [x] := List.length_eq_one_iff.1 hF1
    subst hx
    obtain ⟨q1, q2, q3⟩ := HRF.out.one
    obtain ⟨b, off, rfl, hbw, c0, c1, c2⟩ := HWF.out.at 0 (by simp)
    obtain ⟨x1, x2, x3⟩ := x
    simp only [List.getD_cons_zero, Nat.zero_mul, Nat.add_zero] at c0 c1 c2
    have HQ : Hid (Rle (wat size l) none f (addW [] (f, t - f, x3)) t) := Rle.first (fun u k1 k2 => q3 _ (Int.emod_nonneg u (by omega)) (Int.emod_lt_of_pos u (by omega))) h2
    have hlen := (addW_len [] (f, t - f, x3)).2
    clear q3 q1 q2
    simp only [List.length_cons, List.length_nil, Nat.zero_add] at hF1 ⊢
    go_wp2_with fail
    refine (add_any _ [] f (t - f) x3 w2.heap.size _ (OwnW.nil _ _) (Nat.le_refl _) (by simp) (by simp) (by omega)).mono ?_
    rintro e w3 ⟨v3, rfl, ho3, hg3, _⟩
    have HB3 := hid (HB2.out.trans ((OwnW.nil w2 w2.heap.size).to_below hg3 (by omega) (by omega)))
    obtain ⟨p4, n4, c4, hv4⟩ := ho3.slice
    subst hv4
    have HO3 := hid ho3
    clear ho3 hg3
    go_wp2_with fail
    go_ret2
    refine ⟨.inl ⟨_, _, rfl, HO3.out.base (by omega), HQ.out, ?_⟩, HB3.out⟩
    simp only [List.length_nil, Nat.zero_add] at hlen
    omega
  · have hF2 : ((F.length : Int) == 1) = false := by rw [beq_eq_false_iff_ne]; omega
    go_wp2_with fail
    go_loopw [10, 11] (fun v10 v11 wr => ∃ (base : Int) (acc : List Win), v11 = .int .i64 base ∧ Hid (base % size = 0) ∧ 0 ≤ base ∧ base ≤ t + size ∧ Hid (Rle (wat size l) none f acc (max f (min t base))) ∧ acc.length ≤ 400 ∧ OwnW wr w2.heap.size v10 acc ∧ Below w2.heap.size w2 wr) (fun _ v11 _ => (t - intOf v11).toNat)
    case atStart =>
      refine ⟨f - f % size, [], rfl, mod_start, by omega, by omega, ?_, by simp, OwnW.nil _ _, Below.refl _ _⟩
      show Rle _ _ _ _ _
      simp only [Rle]; omega
    case round =>
      obtain ⟨base, acc, rfl, hbm, hb0, hb1, hL, hal, ho, hb⟩ := hrel
      have HO := hid ho
      have HB := hid hb
      have hsz := hb.size
      obtain ⟨p3, n3, c3, hv3⟩ := ho.slice
      subst hv3
      have E0 := (hb.cell (p := ⟨w.heap.size, 0, none⟩) (by simp; omega)).trans D0
      clear ho hb
      by_cases hlt : base < t
      · have HLT := hid hlt
        have hbt : base ≤ 1099511627776 := by omega
        go_wp2_with fail
        go_loopw [10, 57] (fun v10 v57 ws => ∃ (j : Nat) (p : Option Int) (E : Int) (acc : List Win), j ≤ F.length ∧ v57 = .int .i64 j ∧ Hid (Rle (wown l) p E (F.drop j) size) ∧ 0 ≤ E ∧ E ≤ size ∧ Hid (Rle (wat size l) none f acc (max f (min t (base + E)))) ∧ acc.length ≤ 400 ∧ OwnW ws w2.heap.size v10 acc ∧ Below w2.heap.size w2 ws) (fun _ v57 _ => F.length - (intOf v57).toNat)
        case atStart => exact ⟨0, none, 0, acc, by omega, rfl, by show Rle _ _ _ _ _; simpa using HRF.out, by omega, by omega, by show Rle _ _ _ _ _; simpa using hL.out, hal, HO.out, HB.out⟩
        case round =>
          obtain ⟨j, p, E, acc, hj, rfl, hR, hE0, hE1, hL, hal, ho, hb⟩ := hrel
          have HO := hid ho
          have HB := hid hb
          have hsz := hb.size
          obtain ⟨p3, n3, c3, hv3⟩ := ho.slice
          subst hv3
          have E0 := (hb.cell (p := ⟨w.heap.size, 0, none⟩) (by simp; omega)).trans D0
          by_cases hlt : j < F.length
          · obtain ⟨b, off, rfl, hbw, e1, e2, e3⟩ := (HWF.out.below hb (Nat.le_refl _)).at j hlt
            have hd := drop_get z3 F j hlt
            have hR' := hR.out
            rw [hd] at hR'
            generalize F.getD j z3 = z at e1 e2 e3 hR'
            obtain ⟨x1, x2, x3⟩ := z
            obtain ⟨r1, r2, r3, r4, r5⟩ := hR'
            simp only at e1 e2 e3 r1 r2 r3 r5
            subst r1
            have hle := r5.le
            have hL2 := hL.out.cutAdd (f := wown l) (base := base) (b := t) (x := (x1, x2, x3)) h2 rfl r2 r4 (fun u hu => by
              unfold inW at hu
              simp only at hu
              unfold wat
              rw [mod_base s1 hbm.out (by omega) (by omega)])
            simp only at hL2
            have HL2 := hid hL2
            have hlen := addW_len acc (max (x1 + base) f, min (x1 + base + x2) t - max (x1 + base) f, x3)
            have HY : Hid (∀ y ∈ acc, 0 ≤ y.2.1 ∧ y.2.1 ≤ 2000000000000) := fun y hy => by
              obtain ⟨q1, q2, q3, _⟩ := hL.out.each y hy
              omega
            have HR5 := hid r5
            clear ho hb hd r3 r4 r5 hL2
            obtain ⟨A1, hA1⟩ : ∃ A1, addW acc (max (x1 + base) f, min (x1 + base + x2) t - max (x1 + base) f, x3) = A1 := ⟨_, rfl⟩
            rw [hA1] at HL2 hlen
            have HA1 := hid hA1
            clear hA1
            go_wp2_with fail
            refine (cut_any (x1 + base) x2 x3 f t _ (by omega) (by omega) (by omega) (by omega) (by omega) (by omega) (by omega) (by omega)).mono ?_
            rintro e w3 ⟨rfl, hb3⟩
            have HO3 := hid ((HO.out.below (Below.alloc (Below.refl _ _) (Nat.le_refl _) (.cells #[.int .i64 (x1 + base), .int .i64 x2, .int .i64 x3] 50)) (Nat.le_refl _)).below hb3 (Nat.le_refl _))
            have HB3 := hid (bel_al HB.out hsz hb3)
            have hs3 := HB3.out.size
            clear hb3
            go_wp2_with fail
            refine (add_any _ acc (max (x1 + base) f) (min (x1 + base + x2) t - max (x1 + base) f) x3 w2.heap.size _ HO3.out hs3 (by omega) HY.out (by omega)).mono ?_
            rintro e w4 ⟨v4, rfl, ho4, hg4, _⟩
            rw [HA1.out] at ho4
            have HB4 := hid (HB3.out.trans (HO3.out.to_below hg4 (Nat.le_refl _) hs3))
            obtain ⟨p4, c4, hv4, _⟩ := ho4.cells
            subst hv4
            have HO4 := hid ho4
            clear ho4 hg4
            by_cases h400 : 400 < A1.length
            · have h400' : (400 : Int) < (A1.length : Int) := by omega
              go_wp2_with fail
              go_ret2
              exact ⟨.inr ⟨rfl, _, A1, by omega, HL2.out, h400⟩, HB2.out.trans (HB4.out.mono (by omega))⟩
            · have h400' : ¬ (400 : Int) < (A1.length : Int) := by omega
              go_wp2_with fail
              go_roundw
              case rel => exact ⟨j + 1, _, x1 + x2, A1, by omega, by go_num, HR5, by omega, by omega, HL2, by omega, HO4.out, HB4.out⟩
              case measure => simp [intOf]; omega
          · have hE : E = size := by
              have := hR.out
              rw [List.drop_of_length_le (by omega)] at this
              exact this
            subst hE
            clear ho hb
            go_wp2_with fail
            go_roundw
            case rel => exact ⟨base + E, acc, by go_num, mod_next hbm.out, by omega, by omega, hL, hal, HO.out, HB.out⟩
            case measure => have := HLT.out; simp [intOf]; omega
      · have hc : max f (min t base) = t := by omega
        rw [hc] at hL
        go_wp2_with fail
        go_ret2
        exact ⟨.inl ⟨_, acc, rfl, HO.out.base (by omega), hL.out, hal⟩, HB2.out.trans (HB.out.mono (by omega))⟩
end TabC
end Go.Proofs.Ytgehdpohiphcpaa
