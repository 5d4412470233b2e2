/- MulDiv, LcmOf. -/
import Derived.Test.YtpeapmefnabhfaaNumR
import Derived.Test.YtpeapmefnabhfaaNumL3
set_option linter.unusedVariables false
namespace Go.Proofs.Ytpeapmefnabhfaa
open Go.RowKit
open NumM
namespace NumC
theorem ret_int2 {k : IntKind} {a b c d : Int} (h : a = b) (g : c = d) : Ending.returned (.tuple #[.int k a, .int k c]) = .returned (.tuple #[.int k b, .int k d]) := by rw [h, g]

theorem lcmOf_any (a : Option Addr) (cap : Nat) (zs : List Int) (w : World) (hr : Row w a zs) (h : zs.length ≤ 100) (hx : ∀ i, i < zs.length → Ok1 (zs.getD i 0)) :
    Calls Try.prog 20 #[.slice a zs.length cap] w fun e w' => e = .returned (.int .i64 (lcmVal (lcmFrom 1 zs))) ∧ w' = w := by
  have hc : ∀ k, k < zs.length → ∃ b off, a = some ⟨b, off, none⟩ ∧ w.cell? ⟨b, off + k, none⟩ = some (.int .i64 (zs.getD k 0)) := by
    intro k hk
    rcases hr with rfl | ⟨b, off, rfl, hc⟩
    · simp at hk
    · exact ⟨b, off, rfl, hc k hk⟩
  clear hr
  generalize hF : lcmFrom 1 zs = F
  have HF : Hid (lcmFrom 1 zs = F) := hF
  clear hF
  go_enter Try.func20, Try.ntmps20
  go_wp2_with fail
  go_loop [3, 9] (fun t s => ∃ (all : Int) (k : Nat), k ≤ zs.length ∧ t = .int .i64 all ∧ s = .int .i64 k ∧ 1 ≤ all ∧ all ≤ 1099511627776 ∧ Hid (lcmFrom all (zs.drop k) = F)) (fun _ s => zs.length - (intOf s).toNat)
  case atStart => exact ⟨1, 0, by omega, rfl, rfl, by omega, by omega, HF⟩
  case round =>
    obtain ⟨all, j, hj, rfl, rfl, ha1, ha2, hf⟩ := hrel
    by_cases hjl : j < zs.length
    · obtain ⟨b, off, rfl, hcell⟩ := hc j hjl
      have ho := hx j hjl
      have hd := drop_get zs j hjl
      generalize hz : zs.getD j 0 = z at hcell ho hd
      have Hd : Hid (zs.drop j = z :: zs.drop (j + 1)) := hd
      clear hz hd
      obtain ⟨o1, o2⟩ := ho
      have gp := G_pos all z ha1
      have gl := G_le_right all z o1
      have q0 : 0 ≤ z / G all z := Int.ediv_nonneg (by omega) (by omega)
      have q1 : z / G all z ≤ z := Int.ediv_le_self _ (by omega)
      have q2 : 0 ≤ 1099511627776 / all := Int.ediv_nonneg (by omega) (by omega)
      by_cases hf0 : 1099511627776 / all < z / G all z
      · have Hn : Hid (F = none) := by
          show F = none
          rw [← hf.out, Hd.out, lcmFrom, if_pos hf0]
        go_wp2_with (go_at_call 35; go_call (gcdOf _ _ _) as e w' ⟨rfl, rfl⟩)
        go_ret
        rw [Hn.out]
        exact ⟨rfl, rfl⟩
      · have bd := lcm_step_bd all z ha1 o1 o2 hf0
        have Hn : Hid (lcmFrom (all * (z / G all z)) (zs.drop (j + 1)) = F) := by
          show _ = F
          rw [← hf.out, Hd.out, lcmFrom, if_neg hf0]
        go_wp2_with (go_at_call 35; go_call (gcdOf _ _ _) as e w' ⟨rfl, rfl⟩)
        go_round
        case rel => exact ⟨all * (z / G all z), j + 1, by omega, rfl, by go_num, bd.1, bd.2, Hn⟩
        case measure => simp [intOf]; omega
    · go_wp2_with fail
      have Hn : Hid (F = some all) := by
        show F = some all
        rw [← hf.out, List.drop_of_length_le (by omega), lcmFrom]
      go_ret
      rw [Hn.out]
      exact ⟨rfl, rfl⟩
end NumC
end Go.Proofs.Ytpeapmefnabhfaa
