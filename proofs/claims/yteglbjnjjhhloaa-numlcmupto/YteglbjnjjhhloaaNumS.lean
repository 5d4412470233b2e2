/- slices.Clone and slices.Reverse at []int. -/
import Derived.Test.YteglbjnjjhhloaaBase
import Derived.Handy
import Derived.Deep.QuietTactic
import Derived.BigQuiet
import Derived.BigRegion
import Derived.WalkSmall
import Derived.OwnWalk
import Derived.Laws.AppendOwnNone
import Derived.Lib.SliceRun
set_option linter.unusedVariables false
namespace Go.Proofs.Yteglbjnjjhhloaa
open Go.RowKit
open Base
namespace NumC
theorem infoInt : (Try.prog.info? 3).map (fun i => (i.zero, i.size, i.bytes)) = some (some (.int .i64 0), 1, 8) := by kernel_rfl

/-- numbers in memory -/
abbrev iv (zs : List Int) : List Value := zs.map (Value.int .i64)

theorem ints_atAdd {w : World} {a : Addr} {zs : List Int} (h : Ints w (some a) zs) : ∀ (j : Nat) (u : Value), (iv zs)[j]? = some u → w.cell? (a.add j) = some u := by
  intro j u hj
  rcases h with rfl | ⟨b, off, e, h⟩
  · simp at hj
  · obtain rfl : a = ⟨b, off, none⟩ := by simpa using e
    have hl : j < zs.length := by
      rcases Nat.lt_or_ge j zs.length with h' | h'
      · exact h'
      · simp [h'] at hj
    have := h j hl
    simp [hl] at hj
    subst hj
    have ea : (⟨b, off, none⟩ : Addr).add j = ⟨b, off + j, none⟩ := by
      by_cases h0 : j = 0
      · simp [Addr.add, h0]
      · simp [Addr.add, h0]
    rw [ea, this]; simp [List.getD, hl]

theorem ints_of_owns {w : World} {base g cap n : Nat} {zs : List Int} (h : w.ownsRow base 3 1 (.slice (some ⟨g, 0, none⟩) n cap) n (iv zs)) : zs.length = n ∧ Ints w (some ⟨g, 0, none⟩) zs := by
  have hl : zs.length = n := by have := h.1; simpa using this
  refine ⟨hl, .inr ⟨g, 0, rfl, fun i hi => ?_⟩⟩
  rw [Nat.zero_add, h.cellAt i (by omega)]
  simp [hi, List.getD]

theorem eqNil (w : World) (a : Option Addr) (n c n' c' : Nat) : (binOp .eql 24 (.slice a n c) (.slice none n' c')).run Try.prog w = .ok (.bool a.isNone) w := Lib.run_eql_slice_nil w _ _ a n c n' c' Try.underlying24

theorem clone_nil (w : World) :
    Calls Try.prog 26 #[.slice none 0 0] w fun e w' => e = .returned (.slice none 0 0) ∧ w' = w := by
  have q := eqNil
  go_enter Try.func26, Try.ntmps26
  go_wp2
  go_ret
  exact ⟨rfl, rfl⟩

theorem shape_own {w : World} {base e size n : Nat} {v : Value} {xs : List Value} (h : w.ownsRow base e size v n xs) (hne : v ≠ .slice none 0 0) :
    ∃ g cap, v = .slice (some ⟨g, 0, none⟩) n cap ∧ base ≤ g := by
  rcases h.2 with ⟨h', _⟩ | ⟨g, cap, cur, h', hb, _⟩
  · exact absurd h' hne
  · exact ⟨g, cap, h', hb⟩

theorem clone_some (a : Addr) (cap : Nat) (zs : List Int) (w : World) (h : Ints w (some a) zs) (hl : zs.length * 8 ≤ 140737488355328) :
    Calls Try.prog 26 #[.slice (some a) zs.length cap] w fun e w' => ∃ g c, e = .returned (.slice (some ⟨g, 0, none⟩) zs.length c) ∧ w'.ownsRow w.heap.size 3 1 (.slice (some ⟨g, 0, none⟩) zs.length c) zs.length (iv zs) ∧ Below w.heap.size w w' := by
  obtain ⟨i0, hi, hz0, hz1, hz2⟩ := info_parts infoInt
  have q := eqNil
  have HA : Hid _ := ints_atAdd h
  clear h
  go_enter Try.func26, Try.ntmps26
  go_wp2_with (at_builtin; refine wpList_append_own _ rfl _ _ 24 rfl w.heap.size 3 i0 (.int .i64 0) 1 8 Try.underlying24 hi hz0 hz1 hz2 rfl (by decide) _ _ _ rfl (World.ownsRow_made w #[] 0 (Nat.le_refl _) (Nat.zero_le _) rfl) a zs.length cap (iv zs) rfl ?qc1 ?qc2 ?qc3 ?qc4 ?qc5 ?qc6 ?_)
  case qc1 => simp
  case qc2 => intro j u hj; exact Lib.cell?_alloc_some _ (HA.out j u hj)
  case qc3 => intro u hu; obtain ⟨x, _, rfl⟩ := List.mem_map.1 hu; rfl
  case qc4 => unfold maxLen; omega
  case qc5 => omega
  case qc6 => simp
  intro v' w1 hown hgrow hnil
  obtain ⟨g, c, rfl, hg⟩ := shape_own hown hnil
  go_wp2
  go_ret
  refine ⟨g, c, by simp, by simpa using hown, ?_⟩
  exact ((Below.refl _ w).alloc (Nat.le_refl _) _).grown hgrow (by simp) (by intro k hk; simp [Value.ownBlock] at hk; omega)

/-- what stands at place t behind k exchanges -/
def revAt (zs : List Int) (k t : Nat) : Int := if t < k ∨ zs.length - k ≤ t then zs.getD (zs.length - 1 - t) 0 else zs.getD t 0
def revK (zs : List Int) (k : Nat) : List Int := (List.range zs.length).map (revAt zs k)
theorem revK_zero (zs : List Int) : revK zs 0 = zs := by
  apply List.ext_getElem
  · simp [revK]
  · intro i h1 h2
    simp [revK, revAt, List.getD, h2]; omega
theorem revK_end (zs : List Int) (k : Nat) (h : zs.length ≤ 2 * k + 1) : revK zs k = zs.reverse := by
  apply List.ext_getElem
  · simp [revK]
  · intro i h1 h2
    simp only [List.length_reverse] at h2
    simp only [revK, List.getElem_map, List.getElem_range, List.getElem_reverse, revAt]
    split
    · simp [List.getD, show zs.length - 1 - i < zs.length by omega]
    · have e : zs.length - 1 - i = i := by omega
      simp only [e]; simp [List.getD, h2]
theorem revK_succ (zs : List Int) (k : Nat) (h : 2 * k + 1 < zs.length) :
    ((revK zs k).set k (zs.getD (zs.length - 1 - k) 0)).set (zs.length - 1 - k) (zs.getD k 0) = revK zs (k + 1) := by
  apply List.ext_getElem
  · simp [revK]
  · intro i h1 h2
    simp only [revK, List.length_set, List.length_map, List.length_range] at h1
    simp only [List.getElem_set, revK, List.getElem_map, List.getElem_range, revAt]
    by_cases e1 : zs.length - 1 - k = i
    · rw [if_pos e1, if_pos (by omega), ← e1, show zs.length - 1 - (zs.length - 1 - k) = k by omega]
    · rw [if_neg e1]
      by_cases e2 : k = i
      · rw [if_pos e2, if_pos (by omega), e2]
      · rw [if_neg e2]
        by_cases e3 : i < k ∨ zs.length - k ≤ i
        · rw [if_pos e3, if_pos (by omega)]
        · rw [if_neg e3, if_neg (by omega)]
theorem iv_set (zs : List Int) (j : Nat) (x : Int) : (iv zs).set j (.int .i64 x) = iv (zs.set j x) := by
  simp [iv, List.map_set]
theorem revK_get (zs : List Int) (k t : Nat) (h : t < zs.length) : (iv (revK zs k))[t]? = some (.int .i64 (revAt zs k t)) := by
  simp [iv, revK, h]

theorem reverse_nil (w : World) :
    Calls Try.prog 27 #[.slice none 0 0] w fun e w' => e = .returned (.tuple #[]) ∧ w' = w := by
  go_enter Try.func27, Try.ntmps27
  go_wp2_with fail
  go_rounds 1
  go_returns
  exact ⟨rfl, rfl⟩

set_option maxHeartbeats 2000000 in
theorem reverse_some (B g c : Nat) (zs : List Int) (w : World) (hown : w.ownsRow B 3 1 (.slice (some ⟨g, 0, none⟩) zs.length c) zs.length (iv zs)) (hB : B ≤ g) (hl : zs.length ≤ 9223372036854775807) :
    Calls Try.prog 27 #[.slice (some ⟨g, 0, none⟩) zs.length c] w fun e w' => e = .returned (.tuple #[]) ∧ w'.ownsRow B 3 1 (.slice (some ⟨g, 0, none⟩) zs.length c) zs.length (iv zs.reverse) ∧ Below B w w' := by
  go_enter Try.func27, Try.ntmps27
  go_wp2_with fail
  go_loopw [2, 3] (fun i j wr => ∃ k : Nat, i = .int .i64 k ∧ j = .int .i64 (zs.length - 1 - k) ∧ 2 * k ≤ zs.length ∧ wr.ownsRow B 3 1 (.slice (some ⟨g, 0, none⟩) zs.length c) zs.length (iv (revK zs k)) ∧ Below B w wr) (fun i _ _ => zs.length - (intOf i).toNat)
  case atStart => exact ⟨0, rfl, by simp, by omega, by rw [revK_zero]; exact hown, Below.refl _ _⟩
  case round =>
    obtain ⟨k, rfl, rfl, hk, ho, hbl⟩ := hrel
    by_cases hlt : 2 * k + 1 < zs.length
    · have c1 : wr.cell? ⟨g, k, none⟩ = some (.int .i64 (zs.getD k 0)) := by
        rw [ho.cellAt k (by omega), revK_get zs k k (by omega)]; unfold revAt; rw [if_neg (by omega)]
      have c2 : wr.cell? ⟨g, zs.length - 1 - k, none⟩ = some (.int .i64 (zs.getD (zs.length - 1 - k) 0)) := by
        rw [ho.cellAt (zs.length - 1 - k) (by omega), revK_get zs k (zs.length - 1 - k) (by omega)]; unfold revAt; rw [if_neg (by omega)]
      have f1 := ho.frozenAt k
      have f2 := ho.frozenAt (zs.length - 1 - k)
      have s1 := ho.stored k (.int .i64 (zs.getD (zs.length - 1 - k) 0))
      have s2 := s1.1.stored (zs.length - 1 - k) (.int .i64 (zs.getD k 0))
      have s3 := s2.1
      rw [iv_set, iv_set, revK_succ zs k hlt] at s3
      have hb2 := (hbl.setCell (p := ⟨g, k, none⟩) hB (.int .i64 (zs.getD (zs.length - 1 - k) 0))).setCell (p := ⟨g, zs.length - 1 - k, none⟩) hB (.int .i64 (zs.getD k 0))
      generalize zs.getD k 0 = x at *
      generalize zs.getD (zs.length - 1 - k) 0 = y at *
      have S3 : Hid _ := s3
      have HB2 : Hid _ := hb2
      clear s1 s2 s3 hb2 ho hbl
      obtain ⟨m, hm⟩ : ∃ m : Nat, m = zs.length - 1 - k := ⟨_, rfl⟩
      have hm' : Hid (m = zs.length - 1 - k) := hm
      have em : ((zs.length : Int) - 1 - (k : Int)) = (m : Int) := by omega
      rw [← hm] at c2 f2
      rw [em]
      have lm : k < m := by omega
      have lm2 : m < zs.length := by omega
      clear em hm
      go_wp2_with fail
      go_region
      go_wp2_with fail
      go_roundw
      case rel =>
        have h3 := hm'.out
        refine ⟨k + 1, by go_num, ?_, by omega, ?_, ?_⟩
        · exact congrArg (Value.int .i64) (by omega)
        · rw [h3]; exact S3.out
        · rw [h3]; exact HB2.out.drew
      case measure => simp [intOf]; omega
    · have he : Hid (revK zs k = zs.reverse) := revK_end zs k (by omega)
      have HO : Hid _ := ho
      have HBL : Hid _ := hbl
      clear ho hbl
      go_wp2_with fail
      go_returns
      refine ⟨rfl, ?_, HBL.out⟩
      rw [← he.out]; exact HO.out
end NumC
end Go.Proofs.Yteglbjnjjhhloaa
