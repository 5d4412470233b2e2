/- slices.Insert of one window, where there is no room. -/
import Derived.Test.YtgehdpohiphcpaaTabF2
set_option linter.unusedVariables false
namespace Go.Proofs.Ytgehdpohiphcpaa
open Go.RowKit Go.Shelf
open SpanM SpanC TabM
namespace TabC
set_option maxRecDepth 100000 in
set_option maxHeartbeats 4000000 in
theorem ins_grow (B g cap vb i : Nat) (L : List Win) (x : Win) (w : World) (ho : OwnW w B (.slice (some ⟨g, 0, none⟩) L.length cap) L) (hB : B ≤ w.heap.size) (hi : i < L.length) (hl : L.length ≤ 300) (hroom : cap < L.length + 1) (hlc : L.length ≤ cap)
    (hv : w.heap[vb]? = some (.cells #[.int .i64 x.1, .int .i64 x.2.1, .int .i64 x.2.2] 50)) :
    Calls Try.prog 50 #[.slice (some ⟨g, 0, none⟩) L.length cap, .int .i64 i, .slice (some ⟨vb, 0, none⟩) 1 1] w fun e w' => (∃ G, e = .returned (.slice (some ⟨w.heap.size, 0, none⟩) (L.length + 1) G) ∧ OwnW w' B (.slice (some ⟨w.heap.size, 0, none⟩) (L.length + 1) G) (L.take i ++ x :: L.drop i)) ∧ w.grownBy w' none := by
  obtain ⟨i0, hi0, hz0, hzs, hzb⟩ := info_parts infoWin
  have hgw : g < w.heap.size := (World.ownsRow.lt ho g rfl).2
  have hvw : vb < w.heap.size := (Array.getElem?_eq_some_iff.1 hv).1
  have hod : OwnW w.drew B (.slice (some ⟨g, 0, none⟩) L.length cap) L := World.ownsRow.drew ho
  have hA : (flat3 (L.take i)).length = i * 3 := by rw [flat3_length, List.length_take]; omega
  have hdl : (flat3 (L.drop i)).length = (L.length - i) * 3 := by rw [flat3_length, List.length_drop]
  have hkk : (L.length : Int) + 1 - (i : Int) = ((L.length + 1 - i : Nat) : Int) := by omega
  have hik : i + (L.length + 1 - i) = L.length + 1 := by omega
  have hold : (Builtin.firstCells i0.size i (.slice (some ⟨g, 0, none⟩) i cap)).run Try.prog w.drew = .ok (flat3 (L.take i)).toArray w.drew := by
    rw [hzs]
    exact run_firstCells_some w.drew 3 i ⟨g, 0, none⟩ i cap (flat3 (L.take i)) (by rw [hA]) (fun j v hj => by
      have hj' := (List.getElem?_eq_some_iff.1 hj).1
      rw [add_lit', Nat.zero_add, World.ownsRow.cellAt hod j (by omega), split3 L i, List.getElem?_append_left hj']
      exact hj)
  have hrz : ∀ ty, (Builtin.append_ #[22, 3] ty #[.slice (some ⟨g, 0, none⟩) i cap, .int .i64 ((L.length : Int) + 1 - (i : Int))]).run Try.prog w =
      .ok (.slice (some ⟨w.heap.size, 0, none⟩) (L.length + 1) (grownCap w (L.length + 1) cap 50)) (w.drew.alloc (.cells ((flat3 (L.take i)).toArray ++ Builtin.zeroCells (Value.agg #[.int .i64 0, .int .i64 0, .int .i64 0]).cells (L.length + 1 - i) ++ Builtin.zeroCells (Value.agg #[.int .i64 0, .int .i64 0, .int .i64 0]).cells (grownCap w (L.length + 1) cap 50 - (L.length + 1))) 50)) := fun ty => by
    have h := Lib.run_append_grow_zeros w 22 3 ty 50 i0 _ .i64 .i64 Try.underlying22 Try.underlying3 hi0 hz0 (some ⟨g, 0, none⟩) i cap (flat3 (L.take i)) hold (L.length + 1 - i) (by omega) (by omega) (by omega) (by omega) (by rw [hzb]; omega) (by rw [hzb, hik]; exact growslice_fits hroom (by omega))
    rw [hik] at h
    rw [hkk]
    exact h
  obtain ⟨G, hG⟩ : ∃ G, G = grownCap w (L.length + 1) cap 50 := ⟨_, rfl⟩
  have hGn : L.length + 1 ≤ G := by rw [hG]; exact grownCap_ge w _ _ _
  have hGm : G ≤ maxLen := by rw [hG]; exact grownCap_le_maxLen w _ cap _ (by unfold maxLen; omega)
  obtain ⟨Z1, hZ1⟩ : ∃ Z1 : Array Value, Z1 = Builtin.zeroCells (Value.agg #[.int .i64 0, .int .i64 0, .int .i64 0]).cells (L.length + 1 - i) := ⟨_, rfl⟩
  obtain ⟨Z2, hZ2⟩ : ∃ Z2 : Array Value, Z2 = Builtin.zeroCells (Value.agg #[.int .i64 0, .int .i64 0, .int .i64 0]).cells (G - (L.length + 1)) := ⟨_, rfl⟩
  have hz1s : Z1.size = (L.length + 1 - i) * 3 := by rw [hZ1, size_zeroCells]; rfl
  have hz2s : Z2.size = (G - (L.length + 1)) * 3 := by rw [hZ2, size_zeroCells]; rfl
  rw [← hG, ← hZ1, ← hZ2] at hrz
  obtain ⟨W1, hW1⟩ : ∃ W1, W1 = w.drew.alloc (.cells ((flat3 (L.take i)).toArray ++ Z1 ++ Z2) 50) := ⟨_, rfl⟩
  rw [← hW1] at hrz
  have own1 : W1.ownsRow B 50 3 (.slice (some ⟨w.heap.size, 0, none⟩) (L.length + 1) G) (L.length + 1) (flat3 (L.take i) ++ Z1.toList) := by
    rw [hW1]
    refine ⟨by rw [List.length_append, hA, Array.length_toList, hz1s]; omega, .inr ⟨w.heap.size, G, _, rfl, hB, heap_alloc_new w.drew _, hGn, hGm, by simp only [Array.size_append, List.size_toArray, hA, hz1s, hz2s]; omega, ?_⟩⟩
    simp only [Array.toList_append]
    rw [List.take_left' (by rw [List.length_append, hA, Array.length_toList, hz1s]; omega)]
  have gr1 : w.grownBy W1 none := by
    rw [hW1]
    exact ⟨rfl, rfl, rfl, by simp, fun k hk _ => heap_alloc_old w.drew _ hk⟩
  have cellOf : ∀ (W : World) xs, W.ownsRow B 50 3 (.slice (some ⟨w.heap.size, 0, none⟩) (L.length + 1) G) (L.length + 1) xs → ∀ j, j < (L.length + 1) * 3 → (W.cell? ⟨w.heap.size, j, none⟩).isSome = true := fun W xs h j hj => by
    rw [World.ownsRow.cellAt h j hj, List.getElem?_eq_getElem (by rw [h.1]; exact hj)]; rfl
  have hv1 : W1.heap[vb]? = some (.cells #[.int .i64 x.1, .int .i64 x.2.1, .int .i64 x.2.2] 50) := (gr1.block vb hvw (by simp)).trans hv
  have hcp1 : ∀ ty dc, (Builtin.copy_ #[22, 22] ty #[.slice (some ⟨w.heap.size, i * 3, none⟩) (L.length + 1 - i) dc, .slice (some ⟨vb, 0, none⟩) 1 1]).run Try.prog W1 = .ok (goInt (1 : Nat)) (W1.setCells w.heap.size (i * 3) (flat3 [x])) := fun ty dc =>
    run_copy3 W1 ty w.heap.size (i * 3) _ dc ⟨vb, 0, none⟩ 1 1 1 (flat3 [x]) (by simp only [Nat.min_def]; split <;> omega) rfl
      (fun j v hj => by rw [add_lit', Nat.zero_add, cell_blk hv1]; exact flat3_get x j v hj)
      (fun j hj => cellOf _ _ own1 _ (by simp [flat3] at hj; omega)) (fun j hj => World.ownsRow.frozenAt own1 _) (flat3_one _)
  obtain ⟨W2, hW2⟩ : ∃ W2, W2 = W1.setCells w.heap.size (i * 3) (flat3 [x]) := ⟨_, rfl⟩
  rw [← hW2] at hcp1
  obtain ⟨own2, gr2⟩ := own_setCells (w := W1) (flat3 [x]) (i * 3) own1
  rw [← hW2] at own2 gr2
  have hg2 : ∀ j, j < L.length * 3 → W2.cell? ⟨g, j, none⟩ = (flat3 L)[j]? := fun j hj => by
    have e1 : W2.cell? ⟨g, j, none⟩ = W1.cell? ⟨g, j, none⟩ := World.cell?_of_block (gr2.block g (by have := gr1.size; omega) (by simp; omega))
    have e2 : W1.cell? ⟨g, j, none⟩ = w.cell? ⟨g, j, none⟩ := World.cell?_of_block (gr1.block g hgw (by simp))
    rw [e1, e2, World.ownsRow.cellAt ho j hj]
  have hcp2 : ∀ (W : World), (∀ y, W.cell? y = W2.cell? y) → (∀ y, W.frozen? y = W2.frozen? y) → ∀ ty dc sc, (Builtin.copy_ #[22, 22] ty #[.slice (some ⟨w.heap.size, (i + 1) * 3, none⟩) (L.length - i) dc, .slice (some ⟨g, i * 3, none⟩) (L.length - i) sc]).run Try.prog W = .ok (goInt (L.length - i : Nat)) (W.setCells w.heap.size ((i + 1) * 3) (flat3 (L.drop i))) := fun W hWc hWf ty dc sc =>
    run_copy3 W ty w.heap.size ((i + 1) * 3) _ dc ⟨g, i * 3, none⟩ _ sc (L.length - i) (flat3 (L.drop i)) (by simp only [Nat.min_def]; split <;> omega) hdl
      (fun j v hj => by
        have hj' := (List.getElem?_eq_some_iff.1 hj).1
        rw [add_lit', hWc, hg2 _ (by omega), split3 L i, List.getElem?_append_right (by rw [hA]; omega), hA, show i * 3 + j - i * 3 = j by omega]
        exact hj)
      (fun j hj => by rw [hWc]; exact cellOf _ _ own2 _ (by omega)) (fun j hj => by rw [hWf]; exact World.ownsRow.frozenAt own2 _) (flat3_one _)
  have own2d : W2.drew.ownsRow B 50 3 (.slice (some ⟨w.heap.size, 0, none⟩) (L.length + 1) G) (L.length + 1) _ := World.ownsRow.drew own2
  obtain ⟨own3, gr3⟩ := own_setCells (w := W2.drew) (flat3 (L.drop i)) ((i + 1) * 3) own2d
  obtain ⟨za, zb, hz, hza, hzb2⟩ : ∃ za zb, Z1.toList = za ++ zb ∧ za.length = 3 ∧ zb.length = (flat3 (L.drop i)).length := ⟨Z1.toList.take 3, Z1.toList.drop 3, (List.take_append_drop _ _).symm, by rw [List.length_take, Array.length_toList, hz1s]; omega, by rw [List.length_drop, Array.length_toList, hz1s, hdl]; omega⟩
  rw [hz, ← List.append_assoc, ins_put2 L i (by omega) x za zb hza hzb2] at own3
  have HO3 := hid own3
  have HG3 : Hid (w.grownBy (W2.drew.setCells w.heap.size ((i + 1) * 3) (flat3 (L.drop i))) none) := by
    have e1 : W1.heap.size ≤ W2.heap.size := gr2.size
    have e2 : W2.drew.heap.size ≤ (W2.drew.setCells w.heap.size ((i + 1) * 3) (flat3 (L.drop i))).heap.size := gr3.size
    have e0 := gr1.size
    refine ⟨gr3.os.trans (gr2.os.trans gr1.os), gr3.tape.trans (gr2.tape.trans gr1.tape), gr3.output.trans (gr2.output.trans gr1.output), by have : W2.drew.heap.size = W2.heap.size := rfl; omega, fun k hk _ => ?_⟩
    have h3 := gr3.block k (by have : W2.drew.heap.size = W2.heap.size := rfl; omega) (by simp; omega)
    have h2 := gr2.block k (by omega) (by simp; omega)
    have h1 := gr1.block k hk (by simp)
    exact h3.trans (h2.trans h1)
  have HLL : Hid ((L.take i ++ x :: L.drop i).length = L.length + 1) := by show _ = _; simp; omega
  have HRZ := hid hrz
  have HCP1 := hid hcp1
  have HCP2 := hid (hcp2 W2.drew (fun _ => rfl) (fun _ => rfl))
  have mixed : Try.prog.follows .mixedOrders = true := by kernel_rfl
  clear hcp1 hcp2 own1 own2 own2d own3 gr1 gr2 gr3 hW1 hW2 cellOf hv hv1 hg2 hdl hA hold hod ho hrz hz hza hzb2 hz1s hz2s hZ1 hZ2 hi0 hz0 hzs hzb hkk hik hG
  unfold maxLen at hGm
  generalize hn : L.length = n at *
  have hz2 : ((i : Int) == (n : Int)) = false := by rw [beq_eq_false_iff_ne]; omega
  have hz3 : (cap : Int) < (n : Int) + 1 := by omega
  have hw1 : IntKind.i64.wrap ((i : Int) + 1) = (i : Int) + 1 := by rw [IntKind.wrap_i64]; omega
  have hb1 : (0 : Int) ≤ (i : Int) + 1 := by omega
  have htn : ((i : Int) + 1).toNat = i + 1 := by omega
  have hb2 : ¬ (G = i + 1) := by omega
  have hb3 : (i : Int) ≤ (n : Int) + 1 := by omega
  have hb4 : ¬ (cap = i) := by omega
  have hb5 : (i : Int) + 1 ≤ (n : Int) + 1 := by omega
  have hb6 : ¬ (G = i) := by omega
  have hin : i ≤ n := by omega
  go_enter Try.func50, Try.ntmps50
  have hcp1 := HCP1.out
  go_wp2_with (at_builtin; refine Lib.wpList_append_run _ rfl _ _ _ _ rfl _ _ rfl rfl _ _ (HRZ.out _) ?_)
  have hcp2 := HCP2.out
  go_region
  go_wp2_with fail
  go_ret
  refine ⟨⟨G, rfl, ?_⟩, HG3.out⟩
  show World.ownsRow _ _ _ _ _ _ _
  rw [HLL.out]
  exact HO3.out
end TabC
end Go.Proofs.Ytgehdpohiphcpaa
