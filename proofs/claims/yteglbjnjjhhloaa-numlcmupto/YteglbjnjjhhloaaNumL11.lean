/- The walk of NumLcm, where the list is not too long. -/
import Derived.Test.YteglbjnjjhhloaaNumL10
import Derived.Deep.RegionWith
set_option linter.unusedVariables false
namespace Go.Proofs.Yteglbjnjjhhloaa
open Go.RowKit
open NumM Base
namespace NumC
theorem bel_of {w a b : World} (h : Below w.heap.size w a) (k : Below a.heap.size a b) : Below w.heap.size w b := h.trans (k.mono h.size)

set_option maxHeartbeats 8000000 in
theorem numLcm_some (ad : Addr) (cap : Nat) (zs : List Int) (n : Int) (w : World) (hr : Ints w (some ad) zs) (hn : zs.length ≤ 1048576) (hw : -9223372036854775808 ≤ n ∧ n ≤ 9223372036854775807) :
    Calls Try.prog 10 #[.slice (some ad) zs.length cap, .int .i64 n] w fun e w' => e = .returned (.bool true) ∧ Below w.heap.size w w' := by
  obtain ⟨i0, hi, hz0, hz1, hz2⟩ := info_parts infoInt
  have hc : ∀ W, Below w.heap.size w W → ∀ k, k < zs.length → ∃ b off, ad = ⟨b, off, none⟩ ∧ W.cell? ⟨b, off + k, none⟩ = some (.int .i64 (zs.getD k 0)) := by
    intro W hW k hk
    rcases hr with rfl | ⟨b, off, e, hc⟩
    · simp at hk
    · have h1 := hc k hk
      exact ⟨b, off, by simpa using e, (hW.cell (World.block_lt_of_cell? w _ h1)).trans h1⟩
  have HC : Hid _ := hc
  have HR : Hid _ := hr
  clear hc hr
  generalize hS : lcmSay zs = S
  generalize hS2 : lcmSay (zs.reverse ++ zs.reverse) = S2
  have HS : Hid (lcmSay zs = S) := hS
  have HS2 : Hid (lcmSay (zs.reverse ++ zs.reverse) = S2) := hS2
  clear hS hS2
  go_enter Try.func10, Try.ntmps10
  go_wp2_with fail
  refine (lcm_any _ _ _ _ HR.out).mono ?_
  rw [HS.out]
  rintro e w' ⟨rfl, n1, rfl⟩
  go_wp2_with fail
  refine (clone_some ad cap zs _ (by exact HR.out) (by omega)).mono ?_
  rintro e w2 ⟨g, c, rfl, hown, hb⟩
  have HB : Hid (Below w.heap.size w w2) := (below_drewN (Below.refl _ _) n1).trans hb
  simp only [World.heap_drewN] at hown
  clear hb
  have hg : w.heap.size ≤ g := (hown.lt g rfl).1
  go_wp2_with fail
  refine (reverse_some w.heap.size g c zs w2 hown hg (by omega)).mono ?_
  rintro e w3 ⟨rfl, hown3, hb3⟩
  have HB3 : Hid (Below w.heap.size w w3) := HB.out.trans hb3
  clear hb3 hown
  have hlr : zs.reverse.length = zs.length := List.length_reverse
  have hint3 := ints_atAdd (ints_of_owns hown3).2
  have HI3 : Hid _ := hint3
  have HO3 : Hid _ := hown3
  clear hint3 hown3 hlr
  go_wp2_with (at_builtin; refine wpList_append_own _ rfl _ _ 24 rfl w.heap.size 3 i0 (.int .i64 0) 1 8 Try.underlying24 hi hz0 hz1 hz2 rfl (by decide) _ _ _ rfl HO3.out ⟨g, 0, none⟩ zs.length c (iv zs.reverse) rfl ?qc1 ?qc2 ?qc3 ?qc4 ?qc5 ?qc6 ?_)
  case qc1 => simp
  case qc2 => exact HI3.out
  case qc3 => intro u hu; obtain ⟨x, _, rfl⟩ := List.mem_map.1 hu; rfl
  case qc4 => unfold maxLen; omega
  case qc5 => omega
  case qc6 => exact HB3.out.size
  intro v4 w4 hown4 hgrow4 hnil4
  have HB4 : Hid (Below w.heap.size w w4) := HB3.out.grown hgrow4 HB3.out.size (by intro k hk; simp [Value.ownBlock] at hk; omega)
  obtain ⟨g4, c4, rfl, hg4⟩ := shape_own hown4 (by first | exact hnil4 | (intro e; exact absurd (hnil4.1 e).1 (by simp)))
  have hrow : Ints w4 (some ⟨g4, 0, none⟩) (zs.reverse ++ zs.reverse) := by
    have : w4.ownsRow w.heap.size 3 1 (.slice (some ⟨g4, 0, none⟩) (zs.length + zs.length) c4) (zs.length + zs.length) (iv (zs.reverse ++ zs.reverse)) := by
      simpa [iv] using hown4
    exact (ints_of_owns this).2
  have hlen : (zs.reverse ++ zs.reverse).length = zs.length + zs.length := by simp
  have hlcm := lcm_any (some ⟨g4, 0, none⟩) c4 (zs.reverse ++ zs.reverse) w4 hrow
  rw [hlen, HS2.out] at hlcm
  have HL : Hid _ := hlcm
  clear hlcm hlen hrow hown4 hgrow4 hnil4
  go_wp2_with fail
  refine Calls.mono HL.out ?_
  rintro e w5 ⟨rfl, n5, rfl⟩
  have HB5 : Hid (Below w.heap.size w (w4.drewN n5)) := below_drewN HB4.out n5
  clear HB HB3 HL HI3 HO3 HB4
  by_cases he : S.2 = 0
  · have E0 : Hid (S.2 = 0) := he
    have he0 : (S.2 != 0) = false := by simp [he]
    clear he
    obtain ⟨k1, k2, k3, k4⟩ := say_ok (zs := zs) (by rw [HS.out]; exact E0.out)
    rw [HS.out] at k3
    have hp : ∀ x ∈ zs, 1 ≤ x := fun x hx => (ok_mem k2 x hx).1
    have hp2 : ∀ k, k < zs.length → Ok1 (zs.getD k 0) := (all_iff zs).1 k2
    have HP2 : Hid _ := hp2
    have hm1 : 1 ≤ S.1 := by rw [k3]; exact lc_pos zs 1 (by omega) hp
    have hm2 : S.1 ≤ 1099511627776 := by rw [k3]; exact k4
    have hd : ∀ k, k < zs.length → (S.1 % zs.getD k 0 != 0) = false := fun k hk => by
      rw [k3]; exact dvd_say hp _ (by simp [List.getD, hk])
    have HD : Hid _ := hd
    have hall : allTo zs n zs.length = true → (n % S.1 != 0) = false := fun h => by rw [k3]; exact allTo_dvd h hp
    have HALL : Hid _ := hall
    have htw : zs.length ≤ 50 → (S2.2 != 0) = false ∧ (S2.1 != S.1) = false := fun h => by
      have := say_twice (zs := zs) (by rw [HS.out]; exact E0.out) h
      rw [HS2.out, HS.out] at this
      rw [this]; simp
    have HTW : Hid _ := htw
    have h2s : ∀ x y, zs = [x, y] → S.1 * G x y = x * y := fun x y e => by
      rw [k3]; subst e; exact lc_two x y (hp x (by simp)) (hp y (by simp))
    have H2S : Hid _ := h2s
    clear hd hall htw h2s hp hp2 k2 k3 k4
    go_wp2_with (go_at_call 25; refine (lives _).mono ?_; rintro e w6 ⟨rfl, hb6⟩; have HB6 : Hid (Below w.heap.size w w6) := bel_of HB5.out hb6; clear hb6)
    go_loopw [10, 46] (fun t s wr => ∃ k : Nat, k ≤ zs.length ∧ s = .int .i64 k ∧ t = .bool (allTo zs n k) ∧ wr = w6) (fun _ s _ => zs.length - (intOf s).toNat)
    case atStart => exact ⟨0, by omega, rfl, by simp [allTo], rfl⟩
    case round =>
      obtain ⟨k, hk, rfl, rfl, rfl⟩ := hrel
      by_cases hlt : k < zs.length
      · obtain ⟨b, off, rfl, hcell⟩ := HC.out _ HB6.out k hlt
        have ho := HP2.out k hlt
        have hdv := HD.out k hlt
        have hs := allTo_succ zs n k hlt
        generalize hz : zs.getD k 0 = z at hcell ho hdv hs
        have HSS : Hid _ := hs
        clear hz hs
        obtain ⟨o1, o2⟩ := ho
        cases hb : allTo zs n k
        · have e1 : Hid (allTo zs n (k + 1) = false) := by show _ = _; rw [HSS.out, hb]; rfl
          clear hb
          go_wp2_with fail
          go_roundw
          case rel => exact ⟨k + 1, by omega, by go_num, by rw [e1.out], trivial⟩
          case measure => simp [intOf]; omega
        · have hn0 : 0 < n := by
            unfold allTo at hb
            rw [Bool.and_eq_true, decide_eq_true_iff] at hb
            exact hb.1
          have e1 : Hid (allTo zs n (k + 1) = (n % z == 0)) := by show _ = _; rw [HSS.out, hb]; rfl
          clear hb
          go_wp2_with fail
          go_roundw
          case rel => exact ⟨k + 1, by omega, by go_num, by rw [e1.out], trivial⟩
          case measure => simp [intOf]; omega
      · obtain rfl : k = zs.length := by omega
        have B1 : (allTo zs n zs.length = false) ∨ (allTo zs n zs.length = true ∧ 0 < n ∧ (n % S.1 != 0) = false) := by
          cases hb : allTo zs n zs.length
          · exact .inl rfl
          · refine .inr ⟨rfl, ?_, HALL.out hb⟩
            unfold allTo at hb
            rw [Bool.and_eq_true, decide_eq_true_iff] at hb
            exact hb.1
        have D1 : (50 < zs.length) ∨ (zs.length ≤ 50 ∧ (S2.2 != 0) = false ∧ (S2.1 != S.1) = false ∧ zs.length ≠ 2) ∨ zs.length = 2 := by
          by_cases h : 50 < zs.length
          · exact .inl h
          · by_cases h2 : zs.length = 2
            · exact .inr (.inr h2)
            · exact .inr (.inl ⟨by omega, (HTW.out (by omega)).1, (HTW.out (by omega)).2, h2⟩)
        rcases D1 with d | ⟨d, d1, d2, d3⟩ | d
        · have d4 : ((zs.length : Int) != 2) = true := by rw [bne_iff_ne]; omega
          rcases B1 with b1 | ⟨b1, b2, b3⟩
          all_goals
            go_wp2_with fail
            go_ret
            exact ⟨rfl, HB6.out⟩
        · have d4 : ((zs.length : Int) != 2) = true := by rw [bne_iff_ne]; omega
          rcases B1 with b1 | ⟨b1, b2, b3⟩
          all_goals
            go_wp2_with fail
            go_ret
            exact ⟨rfl, HB6.out⟩
        · obtain ⟨d1, d2⟩ := HTW.out (by omega)
          obtain ⟨b, off, rfl, c0⟩ := HC.out _ HB6.out 0 (by omega)
          obtain ⟨b', off', eb, c1⟩ := HC.out _ HB6.out 1 (by omega)
          obtain ⟨rfl, rfl⟩ : b = b' ∧ off = off' := by simpa using eb
          have o0 := HP2.out 0 (by omega)
          have o1 := HP2.out 1 (by omega)
          have ez : zs = [zs.getD 0 0, zs.getD 1 0] := by
            match zs, d with
            | [x, y], _ => rfl
          have hm := H2S.out _ _ ez
          rw [Nat.add_zero] at c0
          generalize zs.getD 0 0 = x at c0 o0 hm
          generalize zs.getD 1 0 = y at c1 o1 hm
          clear ez eb
          obtain ⟨x1, x2⟩ := o0
          obtain ⟨y1, y2⟩ := o1
          have hm' : (S.1 * G x y == x * y) = true := by rw [hm]; simp
          have d4 : ((zs.length : Int) != 2) = false := by rw [bne_eq_false_iff_eq]; omega
          have d5 : (zs.length : Int) ≤ 50 := by omega
          have d6 : (1 : Int) < (zs.length : Int) := by omega
          have gp := G_pos x y x1
          have gl := G_le_left x y x1
          clear hm d
          have C1 : 1000000 < x ∨ (x ≤ 1000000 ∧ 1000000 < y) ∨ (x ≤ 1000000 ∧ y ≤ 1000000) := by omega
          rcases C1 with cc | ⟨cc, cd⟩ | ⟨cc, cd⟩
          · rcases B1 with b1 | ⟨b1, b2, b3⟩
            all_goals
              go_wp2_with fail
              go_ret
              exact ⟨rfl, HB6.out⟩
          · rcases B1 with b1 | ⟨b1, b2, b3⟩
            all_goals
              go_wp2_with fail
              go_ret
              exact ⟨rfl, HB6.out⟩
          · have sm := small_mul x y 1000000 1000000 (by omega) (by omega) (by omega) (by omega) (by omega) (by omega)
            have hm2' : S.1 * G x y = x * y := by simpa using hm'
            have sm2 : -1000000000000 ≤ S.1 * G x y ∧ S.1 * G x y ≤ 1000000000000 := by rw [hm2']; omega
            clear hm2'
            rcases B1 with b1 | ⟨b1, b2, b3⟩
            all_goals
              go_wp2_with fail
              go_quiet ((go_at_call 17; exact Calls.quiet_of (Gcd_yes _ _ _ (by omega) (by omega) (by omega) (by omega))))
              go_wp2_with fail
              go_quiet (fail)
              go_wp2_with fail
              go_ret
              exact ⟨rfl, by first | exact below_drewN HB6.out _ | exact below_drewN (below_drewN HB6.out _) _⟩
  · have he0 : (S.2 != 0) = true := by simp [he]
    have h0 : S.1 = 0 := by
      have := say_err (zs := zs) (by rw [HS.out]; exact he)
      rwa [HS.out] at this
    have h1 : (S.1 == 0) = true := by simp [h0]
    clear h0 he
    go_wp2_with (go_at_call 25; refine (lives _).mono ?_; rintro e w6 ⟨rfl, hb6⟩)
    go_ret
    exact ⟨rfl, bel_of (bel_of HB5.out ‹Below (w4.drewN n5).heap.size _ _›) hb6⟩

theorem lcm_nil (w : World) :
    Calls Try.prog 19 #[.slice none 0 0] w fun e w' => e = .returned (.tuple #[.int .i64 1, .int .i64 0]) ∧ ∃ n, w' = w.drewN n := by
  have h := lcm_any none 0 [] w (.inl rfl)
  have e1 : lcmSay [] = (1, 0) := rfl
  rw [e1] at h
  exact h

set_option maxRecDepth 100000 in
set_option maxHeartbeats 2000000 in
theorem numLcm_nil (n : Int) (w : World) (hw : -9223372036854775808 ≤ n ∧ n ≤ 9223372036854775807) :
    Calls Try.prog 10 #[.slice none 0 0, .int .i64 n] w fun e w' => e = .returned (.bool true) ∧ Below w.heap.size w w' := by
  obtain ⟨i0, hi, hz0, hz1, hz2⟩ := info_parts infoInt
  by_cases hn : 0 < n
  all_goals
    go_enter Try.func10, Try.ntmps10
    go_wp2_with (first | (go_at_call 19; refine (lcm_nil _).mono ?_; rintro e w' ⟨rfl, n1, rfl⟩) | (go_at_call 26; refine (clone_nil _).mono ?_; rintro e w' ⟨rfl, rfl⟩) | (go_at_call 27; refine (reverse_nil _).mono ?_; rintro e w' ⟨rfl, rfl⟩) | (go_at_call 25; refine (lives _).mono ?_; rintro e w6 ⟨rfl, hb6⟩) | (at_builtin; refine wpList_append_own_none rfl _ _ 24 rfl 0 3 i0 1 Try.underlying24 hi _ _ _ rfl (World.ownsRow_nil _ _ _ _) rfl ?_))
    go_rounds 1
    go_ret
    exact ⟨rfl, (below_drewN (Below.refl _ _) _).trans hb6⟩

theorem numLcm_walk (a0 : Option Addr) (len0 cap0 : Nat) (z0 : List Int) (a1 : Int) (w : World) (w0 : IsRow .i64 w a0 len0 cap0 z0) (w1 : (Lit.int .i64 a1).wf = true) (hk : len0 ≤ 1048576) :
    Calls Try.prog 10 #[.slice a0 len0 cap0, .int .i64 a1] w fun e w' => e = .returned (.bool true) ∧ Below w.heap.size w w' := by
  have w0' := w0
  obtain ⟨l, rfl, h1, h2, h3, _⟩ := w0.ints
  have hb := bounds_i64 w1
  cases a0 with
  | none =>
    rcases w0' with ⟨_, e1, rfl, _⟩ | ⟨x, hx, _⟩
    · rw [e1]; exact numLcm_nil a1 w hb
    · simp at hx
  | some ad => exact numLcm_some ad cap0 l a1 w h3 hk hb
end NumC
end Go.Proofs.Yteglbjnjjhhloaa
