/- slices.Insert of one window, where there is room. -/
import Derived.Test.YtgehdpohiphcpaaTabF
import Derived.Shelf.RegionOpenPlain
import Derived.Shelf.Spec.SlicesInsert
set_option linter.unusedVariables false
namespace Go.Proofs.Ytgehdpohiphcpaa
open Go.RowKit Go.Shelf
open SpanM SpanC TabM
namespace TabC
theorem cell_blk {w : World} {vb : Nat} {c : Array Value} {t : TypeId} (h : w.heap[vb]? = some (.cells c t)) (j : Nat) : w.cell? ⟨vb, j, none⟩ = c[j]? := by simp [World.cell?, h]
theorem frozen_blk {w : World} {vb : Nat} {c : Array Value} {t : TypeId} (h : w.heap[vb]? = some (.cells c t)) (j : Nat) : w.frozen? ⟨vb, j, none⟩ = false := by simp [World.frozen?, h]
theorem add_lit' (b o j : Nat) : (⟨b, o, none⟩ : Addr).add j = ⟨b, o + j, none⟩ := by
  by_cases h : j = 0 <;> simp [Addr.add, h]
theorem flat3_get (x : Win) (j : Nat) (u : Value) (h : (flat3 [x])[j]? = some u) : (#[.int .i64 x.1, .int .i64 x.2.1, .int .i64 x.2.2] : Array Value)[j]? = some u := by
  match j, h with
  | 0, h => simpa [flat3] using h
  | 1, h => simpa [flat3] using h
  | 2, h => simpa [flat3] using h
  | j + 3, h => simp [flat3] at h
set_option maxRecDepth 100000 in
set_option maxHeartbeats 4000000 in
theorem ins_room (B g cap vb i : Nat) (L : List Win) (x : Win) (w : World) (ho : OwnW w B (.slice (some ⟨g, 0, none⟩) L.length cap) L) (hi : i < L.length) (hl : L.length ≤ 300) (hroom : L.length + 1 ≤ cap) (hcm : cap ≤ 9223372036854775807)
    (hv : w.heap[vb]? = some (.cells #[.int .i64 x.1, .int .i64 x.2.1, .int .i64 x.2.2] 50)) (hne : vb ≠ g) :
    Calls Try.prog 50 #[.slice (some ⟨g, 0, none⟩) L.length cap, .int .i64 i, .slice (some ⟨vb, 0, none⟩) 1 1] w fun e w' => e = .returned (.slice (some ⟨g, 0, none⟩) (L.length + 1) cap) ∧ OwnW w' B (.slice (some ⟨g, 0, none⟩) (L.length + 1) cap) (L.take i ++ x :: L.drop i) ∧ w.grownBy w' (some g) := by
  obtain ⟨tl, htl, ho1⟩ := own_more ho hroom
  have hd1 : w.drew.ownsRow B 50 3 (.slice (some ⟨g, 0, none⟩) (L.length + 1) cap) (L.length + 1) (flat3 L ++ tl) := World.ownsRow.drew ho1
  have hlen1 : (flat3 L ++ tl).length = (L.length + 1) * 3 := hd1.1
  have hdl : (flat3 (L.drop i)).length = (L.length - i) * 3 := by rw [flat3_length, List.length_drop]
  have cellOf : ∀ (W : World) xs, W.ownsRow B 50 3 (.slice (some ⟨g, 0, none⟩) (L.length + 1) cap) (L.length + 1) xs → ∀ j, j < (L.length + 1) * 3 → (W.cell? ⟨g, j, none⟩).isSome = true := fun W xs h j hj => by
    rw [World.ownsRow.cellAt h j hj, List.getElem?_eq_getElem (by rw [h.1]; exact hj)]; rfl
  obtain ⟨W1, hW1⟩ : ∃ W1, W1 = w.drew.setCells g ((i + 1) * 3) (flat3 (L.drop i)) := ⟨_, rfl⟩
  have s1 := own_setCells (w := w.drew) (flat3 (L.drop i)) ((i + 1) * 3) hd1
  rw [← hW1] at s1
  have hcp1 : ∀ ty dc sc, (Builtin.copy_ #[22, 22] ty #[.slice (some ⟨g, (i + 1) * 3, none⟩) (L.length - i) dc, .slice (some ⟨g, i * 3, none⟩) (L.length + 1 - i) sc]).run Try.prog w.drew = .ok (goInt (L.length - i : Nat)) W1 := fun ty dc sc => by
    rw [hW1]
    exact run_copy3 w.drew ty g ((i + 1) * 3) _ dc ⟨g, i * 3, none⟩ _ sc (L.length - i) (flat3 (L.drop i)) (by simp only [Nat.min_def]; split <;> omega) hdl
      (fun j v hj => by
        rw [add_lit', World.ownsRow.cellAt hd1 (i * 3 + j) (by have := (List.getElem?_eq_some_iff.1 hj).1; omega), split3 L i, List.append_assoc, List.getElem?_append_right (by rw [flat3_length, List.length_take]; omega)]
        rw [flat3_length, List.length_take, show i * 3 + j - min i L.length * 3 = j by rw [Nat.min_eq_left (by omega)]; omega, List.getElem?_append_left (List.getElem?_eq_some_iff.1 hj).1]
        exact hj)
      (fun j hj => cellOf _ _ hd1 _ (by omega)) (fun j hj => World.ownsRow.frozenAt hd1 _) (flat3_one _)
  have hvd : w.drew.heap[vb]? = some (.cells #[.int .i64 x.1, .int .i64 x.2.1, .int .i64 x.2.2] 50) := hv
  have hv1 : W1.heap[vb]? = some (.cells #[.int .i64 x.1, .int .i64 x.2.1, .int .i64 x.2.2] 50) :=
    (s1.2.block vb (by have := (Array.getElem?_eq_some_iff.1 hvd).1; exact this) (by simp [hne])).trans hvd
  have hcp2 : ∀ (W : World), (∀ y, W.cell? y = W1.cell? y) → (∀ y, W.frozen? y = W1.frozen? y) → ∀ ty dc, (Builtin.copy_ #[22, 22] ty #[.slice (some ⟨g, i * 3, none⟩) (L.length + 1 - i) dc, .slice (some ⟨vb, 0, none⟩) 1 1]).run Try.prog W = .ok (goInt (1 : Nat)) (W.setCells g (i * 3) (flat3 [x])) := fun W hWc hWf ty dc =>
    run_copy3 W ty g (i * 3) _ dc ⟨vb, 0, none⟩ 1 1 1 (flat3 [x]) (by simp only [Nat.min_def]; split <;> omega) rfl
      (fun j v hj => by rw [add_lit', Nat.zero_add, hWc, cell_blk hv1]; exact flat3_get x j v hj)
      (fun j hj => by rw [hWc]; exact cellOf _ _ s1.1 _ (by simp [flat3] at hj; omega)) (fun j hj => by rw [hWf]; exact World.ownsRow.frozenAt s1.1 _) (flat3_one _)
  have s2 := own_setCells (w := W1) (flat3 [x]) (i * 3) s1.1
  rw [ins_put L i (by omega) x tl htl] at s2
  have hshg : ∃ kB, w.shape? g = some (50, kB) ∧ kB ≠ 0 := by
    rcases ho.2 with ⟨e0, _⟩ | ⟨g', cap', cur, e0, hb, hg, h1, h2, h3, h4⟩
    · simp at e0
    · simp only [Value.slice.injEq, Option.some.injEq, Addr.mk.injEq, and_true, true_and] at e0
      obtain ⟨rfl, rfl⟩ := e0
      exact ⟨cur.size, by simp [World.shape?, hg], by omega⟩
  obtain ⟨kB, hsb, hkB⟩ := hshg
  have hov : ∀ lb cb, (callFunc 69 #[.slice (some ⟨vb, 0, none⟩) 1 1, .slice (some ⟨g, (i + 1) * 3, none⟩) lb cb]).run Try.prog w = .ok (.value (.bool false)) w := fun lb cb => by
    rw [run_callFunc_extern Try.func69 (by kernel_rfl) (by kernel_rfl) (by kernel_rfl) (e := Extern.SlicesOverlaps.overlaps #[22, 22] #[4]) (by kernel_rfl),
      Lib.run_overlaps_apart w 22 4 50 Try.underlying22 3 Try.sizeOf50 ⟨vb, 0, none⟩ ⟨g, (i + 1) * 3, none⟩ 1 1 lb cb hne 50 50 3 kB (by simp [World.shape?, hv]) hsb hkB (frozen_blk hv 0) (frozen_blk hv 3)]
    rfl
  have HS2 := hid s2
  have HG : Hid (w.grownBy (W1.setCells g (i * 3) (flat3 [x])) (some g)) := by
    have h0 : w.grownBy w.drew (some g) := ⟨rfl, rfl, rfl, Nat.le_refl _, fun _ _ _ => rfl⟩
    exact (h0.trans s1.2).trans s2.2
  have HCP1 := hid hcp1
  have HCP2 := hid hcp2
  have HLL : Hid ((L.take i ++ x :: L.drop i).length = L.length + 1) := by show _ = _; simp; omega
  have mixed : Try.prog.follows .mixedOrders = true := by kernel_rfl
  clear hcp1 hcp2 s1 s2 hW1 hd1 ho1 ho cellOf hv hvd hv1 hdl hlen1
  generalize hn : L.length = n at *
  have hz2 : ((i : Int) == (n : Int)) = false := by rw [beq_eq_false_iff_ne]; omega
  have hz3 : ¬ (cap : Int) < (n : Int) + 1 := by omega
  have hw1 : IntKind.i64.wrap ((i : Int) + 1) = (i : Int) + 1 := by rw [IntKind.wrap_i64]; omega
  have hb1 : (0 : Int) ≤ (i : Int) + 1 := by omega
  have hin : i ≤ n := by omega
  have htn : ((i : Int) + 1).toNat = i + 1 := by omega
  have htn2 : ((n : Int) + 1).toNat = n + 1 := by omega
  have hb2 : ¬ (cap = i + 1) := by omega
  have hb3 : (i : Int) ≤ (n : Int) + 1 := by omega
  have hb4 : ¬ (cap = i) := by omega
  have hb5 : (i : Int) + 1 ≤ (n : Int) + 1 := by omega
  have hcn : n + 1 ≤ cap := by omega
  go_enter Try.func50, Try.ntmps50
  go_wp2_with (simp only [hov])
  have hcp1 := HCP1.out
  go_region
  clear hcp1
  have hcp2a := HCP2.out W1 (fun _ => rfl) (fun _ => rfl)
  go_wp2_with fail
  go_ret
  refine ⟨rfl, ?_, HG.out⟩
  show World.ownsRow _ _ _ _ _ _ _
  rw [HLL.out]
  exact HS2.out.1
end TabC
end Go.Proofs.Ytgehdpohiphcpaa
