/- Contracts of package span: Both. -/
import Derived.Test.YtepnlfnnancnfaaSpanT
set_option linter.unusedVariables false
namespace Go.Proofs.Ytepnlfnnancnfaa
open Go.RowKit
open SpanM
namespace SpanC
theorem addL_len (l : List Sp) (x : Sp) : (addL l x).length ≤ l.length + 1 := by
  unfold addL; split <;> simp
set_option maxHeartbeats 1000000 in
theorem both_ok (size : Int) (a1 a2 : Option Addr) (c1 c2 : Nat) (l m : List Sp) (w : World) (h1 : Sps w a1 l) (h2 : Sps w a2 m) (k1 : chk size l = 0) (k2 : chk size m = 0) :
    Calls Try.prog 32 #[.agg #[.int .i64 size, .slice a1 l.length c1], .agg #[.int .i64 size, .slice a2 m.length c2]] w fun e w' => (∃ r, good size (-1) r = true ∧ (∀ t, mem r t = (mem l t && mem m t)) ∧ Told size r w.heap.size e w') ∧ Below w.heap.size w w' := by
  have H1 := hid (fun W (h : Below w.heap.size w W) => two_any size size a1 a2 c1 c2 l m W (h1.below h (Nat.le_refl _)) (h2.below h (Nat.le_refl _)))
  rw [chk2_of k1 k2] at H1
  obtain ⟨s1, s2, s3, s4⟩ := chk_zero k1
  obtain ⟨_, _, s5, s6⟩ := chk_zero k2
  have R1 := hid h1
  have R2 := hid h2
  have G1 := hid s4
  have G2 := hid s6
  clear h1 h2 k1 k2 s4 s6
  go_enter Try.func32, Try.ntmps32
  go_wp2_with fail
  refine (H1.out _ (by go_grown)).mono ?_
  rintro e w1 ⟨rfl, b1⟩
  have BB := hid ((BBox.start w size (.slice a1 l.length c1) size (.slice a2 m.length c2)).call b1)
  clear b1
  go_wp2_with fail
  go_loopw [7, 8, 9] (fun v7 v8 v9 wr => ∃ (i j : Nat) (acc : List Sp), i ≤ l.length ∧ j ≤ m.length ∧ v8 = .int .i64 i ∧ v9 = .int .i64 j ∧ acc.length ≤ i + j ∧ Own wr (w.heap.size + 3) v7 acc ∧ BBox w wr size (.slice a1 l.length c1) size (.slice a2 m.length c2) ∧ Hid (Binv size l m i j acc)) (fun _ v8 v9 _ => l.length + m.length - (intOf v8).toNat - (intOf v9).toNat)
  case atStart => exact ⟨0, 0, [], by omega, by omega, rfl, rfl, by simp, Own.nil _ _, BB.out, Binv.start G1.out G2.out⟩
  case round =>
    obtain ⟨i, j, acc, hi, hj, rfl, rfl, hal, ho, bb, hB⟩ := hrel
    have BB2 := hid bb
    have HO := hid ho
    obtain ⟨p7, n7, c7, hv7⟩ := ho.slice
    subst hv7
    have hsz := bb.r.sz
    obtain ⟨x1, x2, x3, x4, x5, x6⟩ := bb.t
    by_cases hlt : i < l.length ∧ j < m.length
    · obtain ⟨hl1, hl2⟩ := hlt
      obtain ⟨b, off, rfl, hbw, d1, d2⟩ := (R1.out.below x6 (Nat.le_refl _)).at i hl1
      obtain ⟨b', off', rfl, hbw', e1, e2⟩ := (R2.out.below x6 (Nat.le_refl _)).at j hl2
      have hf := hB.out.facts (x := l.getD i (0, 0)) (y := m.getD j (0, 0)) (by simp [List.getD, hl1]) (by simp [List.getD, hl2])
      generalize l.getD i (0, 0) = X at d1 d2 hf
      generalize m.getD j (0, 0) = Y at e1 e2 hf
      obtain ⟨f, t⟩ := X
      obtain ⟨f', t'⟩ := Y
      have HF := hid hf
      clear hf ho bb
      simp only at d1 d2 e1 e2
      have y1 : w.heap.size < wr.heap.size := by omega
      have y2 : w.heap.size + 1 < wr.heap.size := by omega
      have y3 : w.heap.size < wr.heap.size + 1 := by omega
      have y4 : w.heap.size + 1 < wr.heap.size + 1 := by omega
      have y5 : b < wr.heap.size + 1 := by omega
      have y6 : b' < wr.heap.size + 1 := by omega
      go_wp2_with fail
      go_region
      · have HW : Hid (Own (((wr.alloc (.cells #[.int .i64 f, .int .i64 t] 45)).alloc (.cells #[.int .i64 f', .int .i64 t'] 45)).drew) (w.heap.size + 3) (.slice p7 n7 c7) acc) := (World.ownsRow.alloc (World.ownsRow.alloc HO.out _) _ : _)
        have hbw0 : Below (w.heap.size + 3) wr (((wr.alloc (.cells #[.int .i64 f, .int .i64 t] 45)).alloc (.cells #[.int .i64 f', .int .i64 t'] 45)).drew) := Below.drew (Below.alloc (Below.alloc (Below.refl _ _) (by omega) _) (by simp; omega) _)
        have BB3 := hid (BB2.out.step hbw0)
        have hX : some wr.heap.size ≠ (Value.slice p7 n7 c7).ownBlock := by
          intro h
          have := (World.ownsRow.lt HO.out _ h.symm).2
          omega
        have hY : some (wr.heap.size + 1) ≠ (Value.slice p7 n7 c7).ownBlock := by
          intro h
          have := (World.ownsRow.lt HO.out _ h.symm).2
          omega
        have HXY := hid (And.intro hX hY)
        clear hX hY hbw0
        go_wp2_with fail
        refine (add_any (.slice p7 n7 c7) acc (max f f') (min t t') (w.heap.size + 3) _ HW.out (by simp; omega) (by omega)).mono ?_
        rintro e w3 ⟨v', rfl, ho', hg'⟩
        have q1 : w3.cell? ⟨wr.heap.size, 0, none⟩ = some (.int .i64 f) := hg'.cell ((World.cell?_alloc_lt _ _ _ (by simp)).trans (World.cell?_alloc_at _ _ _ _ rfl)) (by simpa using HXY.out.1)
        have q2 : w3.cell? ⟨wr.heap.size, 1, none⟩ = some (.int .i64 t) := hg'.cell ((World.cell?_alloc_lt _ _ _ (by simp)).trans (World.cell?_alloc_at _ _ _ _ rfl)) (by simpa using HXY.out.1)
        have q3 : w3.cell? ⟨wr.heap.size + 1, 0, none⟩ = some (.int .i64 f') := hg'.cell (World.cell?_alloc_at _ _ _ _ (by simp)) (by simpa using HXY.out.2)
        have q4 : w3.cell? ⟨wr.heap.size + 1, 1, none⟩ = some (.int .i64 t') := hg'.cell (World.cell?_alloc_at _ _ _ _ (by simp)) (by simpa using HXY.out.2)
        have BB4 := hid (BB3.out.step (below_grown HW.out hg' (Nat.le_refl _) (by simp; omega)))
        have HO4 := hid ho'
        obtain ⟨va, vn, vc, rfl⟩ := ho'.slice
        have hln := addL_len acc (max f f', min t t')
        clear ho' hg' HXY
        by_cases hc : t < t'
        · go_wp2_with fail
          go_roundw
          case rel => exact ⟨i + 1, j, addL acc (max f f', min t t'), by omega, by omega, by go_num, by go_num, by omega, HO4.out, BB4.out, HF.out.2.1 hc⟩
          case measure => simp [intOf]; omega
        · go_wp2_with fail
          go_roundw
          case rel => exact ⟨i, j + 1, addL acc (max f f', min t t'), by omega, by omega, by go_num, by go_num, by omega, HO4.out, BB4.out, HF.out.2.2 hc⟩
          case measure => simp [intOf]; omega
      · have HW : Hid (Own (((wr.alloc (.cells #[.int .i64 f', .int .i64 t'] 45)).alloc (.cells #[.int .i64 f, .int .i64 t] 45)).drew) (w.heap.size + 3) (.slice p7 n7 c7) acc) := (World.ownsRow.alloc (World.ownsRow.alloc HO.out _) _ : _)
        have hbw0 : Below (w.heap.size + 3) wr (((wr.alloc (.cells #[.int .i64 f', .int .i64 t'] 45)).alloc (.cells #[.int .i64 f, .int .i64 t] 45)).drew) := Below.drew (Below.alloc (Below.alloc (Below.refl _ _) (by omega) _) (by simp; omega) _)
        have BB3 := hid (BB2.out.step hbw0)
        have hX : some wr.heap.size ≠ (Value.slice p7 n7 c7).ownBlock := by
          intro h
          have := (World.ownsRow.lt HO.out _ h.symm).2
          omega
        have hY : some (wr.heap.size + 1) ≠ (Value.slice p7 n7 c7).ownBlock := by
          intro h
          have := (World.ownsRow.lt HO.out _ h.symm).2
          omega
        have HXY := hid (And.intro hX hY)
        clear hX hY hbw0
        go_wp2_with fail
        refine (add_any (.slice p7 n7 c7) acc (max f f') (min t t') (w.heap.size + 3) _ HW.out (by simp; omega) (by omega)).mono ?_
        rintro e w3 ⟨v', rfl, ho', hg'⟩
        have q1 : w3.cell? ⟨wr.heap.size, 0, none⟩ = some (.int .i64 f') := hg'.cell ((World.cell?_alloc_lt _ _ _ (by simp)).trans (World.cell?_alloc_at _ _ _ _ rfl)) (by simpa using HXY.out.1)
        have q2 : w3.cell? ⟨wr.heap.size, 1, none⟩ = some (.int .i64 t') := hg'.cell ((World.cell?_alloc_lt _ _ _ (by simp)).trans (World.cell?_alloc_at _ _ _ _ rfl)) (by simpa using HXY.out.1)
        have q3 : w3.cell? ⟨wr.heap.size + 1, 0, none⟩ = some (.int .i64 f) := hg'.cell (World.cell?_alloc_at _ _ _ _ (by simp)) (by simpa using HXY.out.2)
        have q4 : w3.cell? ⟨wr.heap.size + 1, 1, none⟩ = some (.int .i64 t) := hg'.cell (World.cell?_alloc_at _ _ _ _ (by simp)) (by simpa using HXY.out.2)
        have BB4 := hid (BB3.out.step (below_grown HW.out hg' (Nat.le_refl _) (by simp; omega)))
        have HO4 := hid ho'
        obtain ⟨va, vn, vc, rfl⟩ := ho'.slice
        have hln := addL_len acc (max f f', min t t')
        clear ho' hg' HXY
        by_cases hc : t < t'
        · go_wp2_with fail
          go_roundw
          case rel => exact ⟨i + 1, j, addL acc (max f f', min t t'), by omega, by omega, by go_num, by go_num, by omega, HO4.out, BB4.out, HF.out.2.1 hc⟩
          case measure => simp [intOf]; omega
        · go_wp2_with fail
          go_roundw
          case rel => exact ⟨i, j + 1, addL acc (max f f', min t t'), by omega, by omega, by go_num, by go_num, by omega, HO4.out, BB4.out, HF.out.2.2 hc⟩
          case measure => simp [intOf]; omega
    · have hd : l.length ≤ i ∨ m.length ≤ j := by omega
      have hM := hB.out.done hd
      have hG := hB.out.good
      have HM := hid hM
      have HG := hid hG
      have H2 := hid (fun W (hb : Below wr.heap.size wr W) => tell_any (.slice p7 n7 c7) acc size (w.heap.size + 3) W (HO.out.below hb (Nat.le_refl _)))
      clear hM hG ho bb
      have D : l.length ≤ i ∨ (i < l.length ∧ m.length ≤ j) := by omega
      clear hlt hd
      rcases D with d | ⟨d, d'⟩
      all_goals
        go_wp2_with fail
        refine (H2.out _ (Below.refl _ _)).mono ?_
        rintro e w3 ⟨⟨s, u, er, rfl, ⟨ua, un, uc, rfl⟩, htd⟩, hb3⟩
        have BB3 := hid (BB2.out.call hb3)
        have HT := hid htd
        clear htd hb3 x1 x2 x3 x4 x5 x6
        obtain ⟨x1, x2, x3, x4, x5, x6⟩ := BB3.out.r
        have z0 := BB3.out.r.s0
        have z1 := BB3.out.r.s1
        go_wp2_with fail
        refine bodyPost_ret (v := .tuple #[.agg #[.int .i64 s, .slice ua un uc], .int .i64 er]) (by simp [results, Try.results32, go_sem, z0, z1]) rfl ⟨⟨acc, HG.out, HM.out, HT.out.set _ _ (by simp) (by simp) _ _ (by omega)⟩, by go_grown⟩
end SpanC
end Go.Proofs.Ytepnlfnnancnfaa
