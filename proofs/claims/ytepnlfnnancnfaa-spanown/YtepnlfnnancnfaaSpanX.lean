/- slices.Grow and slices.Concat at spans. -/
import Derived.Test.YtepnlfnnancnfaaSpanW
import Derived.Lib.AppendZeros
set_option linter.unusedVariables false
namespace Go.Proofs.Ytepnlfnnancnfaa
open Go.RowKit
open SpanM
namespace SpanC
theorem zeros_size (z : Array Value) (n : Nat) : (Builtin.zeroCells z n).size = n * z.size := by
  unfold Builtin.zeroCells
  simp
theorem grow_zero (w : World) :
    Calls Try.prog 60 #[.slice none 0 0, .int .i64 0] w fun e w' => e = .returned (.slice none 0 0) ∧ w' = w := by
  go_enter Try.func60, Try.ntmps60
  go_wp2_with fail
  go_ret
  exact ⟨rfl, rfl⟩
set_option maxRecDepth 20000 in
set_option maxHeartbeats 400000 in
theorem grow_more (n : Nat) (w : World) (h0 : 0 < n) (h1 : n ≤ 400) :
    Calls Try.prog 60 #[.slice none 0 0, .int .i64 n] w fun e w' => (∃ g c, e = .returned (.slice (some ⟨g, 0, none⟩) 0 c) ∧ Own w' w.heap.size (.slice (some ⟨g, 0, none⟩) 0 c) []) ∧ Below w.heap.size w w' := by
  obtain ⟨i0, hi, hz0, hz1, hz2⟩ := info_parts infoSp
  have happ := hid (Lib.run_append_nil_zeros (P := Try.prog) w 22 3 22 45 i0 (.agg #[.int .i64 0, .int .i64 0]) .i64 .i64 Try.underlying22 Try.underlying3 hi hz0 n h0 (by omega) (by omega) (by rw [hz2]; omega))
  have hge := grownCap_ge w n 0 45
  have hle := grownCap_le_maxLen w n 0 45 (by unfold maxLen; omega)
  clear hi hz0 hz1 hz2
  have n0 : (0 : Int) < (n : Int) := by omega
  have n1 : (n : Int) ≤ 400 := by omega
  generalize hG : grownCap w n 0 45 = G at *
  have HG := hid hG
  have HL := hid hle
  clear hG hle
  go_enter Try.func60, Try.ntmps60
  go_wp2_with (at_builtin; refine Lib.wpList_append_run _ rfl _ _ _ _ rfl _ _ rfl rfl _ _ happ.out ?_)
  go_ret
  refine ⟨⟨w.heap.size, G, rfl, World.ownsRow.drew (World.ownsRow_made w _ G (Nat.le_refl _) HL.out ?_)⟩, Below.drew (Below.alloc (Below.refl _ _) (Nat.le_refl _) _)⟩
  rw [Array.size_append, zeros_size, zeros_size]
  simp only [List.size_toArray, List.length_cons, List.length_nil]
  omega
theorem grow_any (n : Nat) (w : World) (h1 : n ≤ 400) :
    Calls Try.prog 60 #[.slice none 0 0, .int .i64 n] w fun e w' => (∃ a c, e = .returned (.slice a 0 c) ∧ Own w' w.heap.size (.slice a 0 c) []) ∧ Below w.heap.size w w' := by
  by_cases h0 : n = 0
  · subst h0
    exact (grow_zero w).mono fun e w' ⟨he, hw⟩ => ⟨⟨none, 0, he, Own.nil _ _⟩, by rw [hw]; exact Below.refl _ _⟩
  · exact (grow_more n w (by omega) h1).mono fun e w' ⟨⟨g, c, he, ho⟩, hb⟩ => ⟨⟨some ⟨g, 0, none⟩, c, he, ho⟩, hb⟩
theorem sps_add {w : World} {p : Addr} {l : List Sp} (h : Sps w (some p) l) : ∀ (j : Nat) (u : Value), (flat l)[j]? = some u → w.cell? (p.add j) = some u := by
  intro j u hj
  have hlt : j < l.length * 2 := by
    rcases Nat.lt_or_ge j (flat l).length with h' | h'
    · rwa [flat_length] at h'
    · simp [h'] at hj
  obtain ⟨b, off, e, _, c1, c2⟩ := h.at (j / 2) (by omega)
  obtain rfl : p = ⟨b, off, none⟩ := by simpa using e
  obtain ⟨f1, f2⟩ := flat_at l (j / 2) (by omega)
  have ea : (⟨b, off, none⟩ : Addr).add j = ⟨b, off + j, none⟩ := by
    by_cases h : j = 0 <;> simp [Addr.add, h]
  rw [ea]
  have hc : j % 2 = 0 ∨ j % 2 = 1 := by omega
  rcases hc with hc | hc
  · rw [show j / 2 * 2 = j by omega] at f1 c1
    rw [f1] at hj
    rw [c1]; exact hj
  · rw [show j / 2 * 2 + 1 = j by omega] at f2
    rw [show off + j / 2 * 2 + 1 = off + j by omega] at c2
    rw [f2] at hj
    rw [c2]; exact hj
/-- what two lists are, the first k of them -/
def upto2 (l m : List Sp) (k : Nat) : List Sp := if k = 0 then [] else if k = 1 then l else l ++ m
set_option maxRecDepth 20000 in
set_option maxHeartbeats 1000000 in
theorem concat_any (B : Nat) (a1 a2 : Option Addr) (c1 c2 : Nat) (l m : List Sp) (w : World) (h1 : Sps w a1 l) (h2 : Sps w a2 m) (z1 : a1 = none → c1 = 0) (z2 : a2 = none → c2 = 0) (hl : l.length ≤ 200) (hm : m.length ≤ 200)
    (k1 : w.cell? ⟨B, 0, none⟩ = some (.slice a1 l.length c1)) (k2 : w.cell? ⟨B, 1, none⟩ = some (.slice a2 m.length c2)) :
    Calls Try.prog 49 #[.slice (some ⟨B, 0, none⟩) 2 2] w fun e w' => (∃ v, e = .returned v ∧ Own w' w.heap.size v (l ++ m)) ∧ Below w.heap.size w w' := by
  obtain ⟨i0, hi, hz0, hz1, hz2⟩ := info_parts infoSp
  have Hi := hid hi
  have Hz0 := hid hz0
  have Hz1 := hid hz1
  have Hz2 := hid hz2
  have R1 := hid h1
  have R2 := hid h2
  have hB := World.block_lt_of_cell? w _ k1
  have K1 := hid k1
  have K2 := hid k2
  have Z1 := hid z1
  have Z2 := hid z2
  have n1 : (0 : Int) ≤ (l.length : Int) := by omega
  have n2 : (l.length : Int) ≤ 200 := by omega
  have n3 : (m.length : Int) ≤ 200 := by omega
  clear hi hz0 hz1 hz2 h1 h2 z1 z2
  go_enter Try.func49, Try.ntmps49
  go_wp2_with fail
  go_loop [3, 11] (fun v3 v11 => ∃ k : Nat, k ≤ 2 ∧ v11 = .int .i64 k ∧ v3 = .int .i64 ((upto2 l m k).length : Nat)) (fun _ v11 => 2 - (intOf v11).toNat)
  case atStart => exact ⟨0, by omega, rfl, rfl⟩
  case round =>
    obtain ⟨k, hk, rfl, rfl⟩ := hrel
    have hc : k = 0 ∨ k = 1 ∨ k = 2 := by omega
    rcases hc with rfl | rfl | rfl
    · have e0 : (upto2 l m 0).length = 0 := rfl
      rw [e0]
      go_wp2_with fail
      go_round
      case rel => exact ⟨1, by omega, by go_num, by simp [upto2]⟩
      case measure => simp [intOf]
    · have e0 : (upto2 l m 1).length = l.length := rfl
      rw [e0]
      go_wp2_with fail
      go_round
      case rel => exact ⟨2, by omega, by go_num, by simp [upto2]⟩
      case measure => simp [intOf]
    · have e0 : (upto2 l m 2).length = l.length + m.length := by simp [upto2]
      rw [e0]
      go_wp2_with fail
      refine (grow_any (l.length + m.length) w (by omega)).mono ?_
      rintro e w2 ⟨⟨ga, gc, rfl, ho2⟩, hb2⟩
      have HO2 := hid ho2
      have HB2 := hid hb2
      clear ho2 hb2 k1 k2
      go_wp2_with fail
      go_loopw [6, 27] (fun v6 v27 wr => ∃ k : Nat, k ≤ 2 ∧ v27 = .int .i64 k ∧ Own wr w.heap.size v6 (upto2 l m k) ∧ Below w.heap.size w wr) (fun _ v27 _ => 2 - (intOf v27).toNat)
      case atStart => exact ⟨0, by omega, rfl, HO2.out, HB2.out⟩
      case round =>
        obtain ⟨k, hk, rfl, ho, hb⟩ := hrel
        have HO := hid ho
        have HB := hid hb
        have hsz := hb.size
        have q1 : wr.cell? ⟨B, 0, none⟩ = some (.slice a1 l.length c1) := (hb.cell (by simpa using hB)).trans K1.out
        have q2 : wr.cell? ⟨B, 1, none⟩ = some (.slice a2 m.length c2) := (hb.cell (by simpa using hB)).trans K2.out
        have r1 := hid (R1.out.below hb (Nat.le_refl _))
        have r2 := hid (R2.out.below hb (Nat.le_refl _))
        obtain ⟨p6, m6, c6, hv6⟩ := ho.slice
        subst hv6
        clear ho hb
        have hc : k = 0 ∨ k = 1 ∨ k = 2 := by omega
        rcases hc with rfl | rfl | rfl
        · cases a1 with
          | none =>
            obtain rfl : c1 = 0 := Z1.out rfl
            have hl0 : l = [] := by
              rcases r1.out with h | ⟨b, off, h, _⟩
              · exact h
              · simp at h
            have e0 : Value.slice none l.length 0 = Value.slice none 0 0 := by rw [hl0]; rfl
            rw [e0] at q1
            have HL0 := hid hl0
            clear hl0 e0
            go_wp2_with (at_builtin; refine wpList_append_own_none rfl _ _ 22 rfl w.heap.size 45 i0 2 Try.underlying22 Hi.out _ _ _ rfl HO.out rfl ?_)
            go_wp2_with fail
            go_roundw
            case rel =>
              refine ⟨0 + 1, by omega, by go_num, ?_, HB.out⟩
              have h := HO.out
              have e : upto2 l m (0 + 1) = upto2 l m 0 := by simp [upto2, HL0.out]
              rw [e]; exact h
            case measure => simp [intOf]
          | some ad =>
            go_wp2_with (at_builtin; refine wpList_append_own _ rfl _ _ 22 rfl w.heap.size 45 i0 (.agg #[.int .i64 0, .int .i64 0]) 2 16 Try.underlying22 Hi.out Hz0.out Hz1.out Hz2.out rfl (by decide) _ _ _ rfl HO.out ad l.length c1 (flat l) rfl ?qc1 ?qc2 ?qc3 ?qc4 ?qc5 ?qc6 ?_)
            case qc1 => exact flat_length l
            case qc2 => exact sps_add r1.out
            case qc3 => exact flat_one l
            case qc4 => have : (upto2 l m 0).length ≤ 400 := by simp [upto2]; try omega
                        unfold maxLen; omega
            case qc5 => have : (upto2 l m 0).length ≤ 400 := by simp [upto2]; try omega
                        omega
            case qc6 => exact hsz
            intro v' w4 hown hgrow hnil
            have e1 : upto2 l m (0 + 1) = upto2 l m 0 ++ l := by simp [upto2]
            have HO7 : Hid (Own w4 w.heap.size v' (upto2 l m (0 + 1))) := by
              show w4.ownsRow _ _ _ _ _ _
              rw [e1, flat_append, List.length_append]
              exact hown
            have HB7 := hid (HB.out.trans (Below.grown (Below.refl _ _) hgrow hsz (fun k hk => (World.ownsRow.lt HO.out k hk).1)))
            clear hown hgrow hnil e1
            go_wp2_with fail
            go_roundw
            case rel => exact ⟨0 + 1, by omega, by go_num, HO7.out, HB7.out⟩
            case measure => simp [intOf]
        · cases a2 with
          | none =>
            obtain rfl : c2 = 0 := Z2.out rfl
            have hl0 : m = [] := by
              rcases r2.out with h | ⟨b, off, h, _⟩
              · exact h
              · simp at h
            have e0 : Value.slice none m.length 0 = Value.slice none 0 0 := by rw [hl0]; rfl
            rw [e0] at q2
            have HL0 := hid hl0
            clear hl0 e0
            go_wp2_with (at_builtin; refine wpList_append_own_none rfl _ _ 22 rfl w.heap.size 45 i0 2 Try.underlying22 Hi.out _ _ _ rfl HO.out rfl ?_)
            go_wp2_with fail
            go_roundw
            case rel =>
              refine ⟨1 + 1, by omega, by go_num, ?_, HB.out⟩
              have h := HO.out
              have e : upto2 l m (1 + 1) = upto2 l m 1 := by simp [upto2, HL0.out]
              rw [e]; exact h
            case measure => simp [intOf]
          | some ad =>
            go_wp2_with (at_builtin; refine wpList_append_own _ rfl _ _ 22 rfl w.heap.size 45 i0 (.agg #[.int .i64 0, .int .i64 0]) 2 16 Try.underlying22 Hi.out Hz0.out Hz1.out Hz2.out rfl (by decide) _ _ _ rfl HO.out ad m.length c2 (flat m) rfl ?qc1 ?qc2 ?qc3 ?qc4 ?qc5 ?qc6 ?_)
            case qc1 => exact flat_length m
            case qc2 => exact sps_add r2.out
            case qc3 => exact flat_one m
            case qc4 => have : (upto2 l m 1).length ≤ 400 := by simp [upto2]; try omega
                        unfold maxLen; omega
            case qc5 => have : (upto2 l m 1).length ≤ 400 := by simp [upto2]; try omega
                        omega
            case qc6 => exact hsz
            intro v' w4 hown hgrow hnil
            have e1 : upto2 l m (1 + 1) = upto2 l m 1 ++ m := by simp [upto2]
            have HO7 : Hid (Own w4 w.heap.size v' (upto2 l m (1 + 1))) := by
              show w4.ownsRow _ _ _ _ _ _
              rw [e1, flat_append, List.length_append]
              exact hown
            have HB7 := hid (HB.out.trans (Below.grown (Below.refl _ _) hgrow hsz (fun k hk => (World.ownsRow.lt HO.out k hk).1)))
            clear hown hgrow hnil e1
            go_wp2_with fail
            go_roundw
            case rel => exact ⟨1 + 1, by omega, by go_num, HO7.out, HB7.out⟩
            case measure => simp [intOf]
        · go_wp2_with fail
          go_ret
          exact ⟨⟨_, rfl, HO.out⟩, HB.out⟩
end SpanC
end Go.Proofs.Ytepnlfnnancnfaa
