/- Lists of wants that a call makes: slices.Clone, slices.Reverse. -/
import Derived.Test.YtgehdpohiphcpaaTabK
import Derived.Test.YtgehdpohiphcpaaTabS
set_option linter.unusedVariables false
namespace Go.Proofs.Ytgehdpohiphcpaa
open Go.RowKit Go.Shelf Go.Sort
open SpanM SpanC TabM
namespace TabC
theorem infoWt : (Try.prog.info? 66).map (fun i => (i.zero, i.size, i.bytes)) = some (some (.agg #[.int .i64 0, .int .i64 0, .int .i64 0, .int .i64 0]), 4, 32) := by kernel_rfl
def enc4 (x : Wnt) : List Value := [.int .i64 x.1, .int .i64 x.2.1, .int .i64 x.2.2.1, .int .i64 x.2.2.2]
/-- wants as cells -/
def flat4 : List Wnt → List Value
  | [] => []
  | x :: r => .int .i64 x.1 :: .int .i64 x.2.1 :: .int .i64 x.2.2.1 :: .int .i64 x.2.2.2 :: flat4 r
theorem flat4_length (l : List Wnt) : (flat4 l).length = l.length * 4 := by
  induction l with
  | nil => rfl
  | cons x r ih => simp only [flat4, List.length_cons, ih]; omega
theorem flat4_append (l r : List Wnt) : flat4 (l ++ r) = flat4 l ++ flat4 r := by
  induction l with
  | nil => rfl
  | cons x s ih => simp [flat4, ih]
theorem flat4_at (l : List Wnt) (i : Nat) (h : i < l.length) : (flat4 l)[i * 4]? = some (.int .i64 (l.getD i z4).1) ∧ (flat4 l)[i * 4 + 1]? = some (.int .i64 (l.getD i z4).2.1) ∧ (flat4 l)[i * 4 + 2]? = some (.int .i64 (l.getD i z4).2.2.1) ∧ (flat4 l)[i * 4 + 3]? = some (.int .i64 (l.getD i z4).2.2.2) := by
  induction l generalizing i with
  | nil => simp at h
  | cons x r ih =>
    cases i with
    | zero => simp [flat4]
    | succ i =>
      have := ih i (by simpa using h)
      rw [show (i + 1) * 4 = i * 4 + 1 + 1 + 1 + 1 by omega]
      simpa [flat4, List.getD] using this
theorem flat4_one (l : List Wnt) : ∀ u ∈ flat4 l, u.oneCell' = true := by
  induction l with
  | nil => simp [flat4]
  | cons x r ih =>
    intro u hu
    simp only [flat4, List.mem_cons] at hu
    rcases hu with rfl | rfl | rfl | rfl | hu
    · rfl
    · rfl
    · rfl
    · rfl
    · exact ih u hu
/-- a list of wants that a call has made, its memory from block B on -/
def OwnT (w : World) (B : Nat) (v : Value) (l : List Wnt) : Prop := w.ownsRow B 66 4 v l.length (flat4 l)
theorem OwnT.nil (w : World) (B : Nat) : OwnT w B (.slice none 0 0) [] := World.ownsRow_nil w B _ _
theorem OwnT.form {w : World} {B : Nat} {v : Value} {l : List Wnt} (h : OwnT w B v l) : (v = .slice none 0 0 ∧ l = []) ∨ ∃ g cap, v = .slice (some ⟨g, 0, none⟩) l.length cap ∧ B ≤ g ∧ g < w.heap.size ∧ l.length ≤ cap ∧ cap ≤ maxLen := by
  rcases h.2 with ⟨rfl, h0⟩ | ⟨g, cap, cur, rfl, hb, hg, h1, h2, _⟩
  · exact .inl ⟨rfl, List.length_eq_zero_iff.1 h0⟩
  · exact .inr ⟨g, cap, rfl, hb, (Array.getElem?_eq_some_iff.1 hg).1, h1, h2⟩
theorem OwnT.wts {w : World} {B : Nat} {v : Value} {l : List Wnt} (h : OwnT w B v l) : ∃ a cap, v = .slice a l.length cap ∧ Wts w a l := by
  rcases h.form with ⟨rfl, rfl⟩ | ⟨g, cap, rfl, hb, hg, h1, h2⟩
  · exact ⟨none, 0, rfl, .inl rfl⟩
  · refine ⟨_, cap, rfl, .inr ⟨g, 0, rfl, fun i hi => ?_⟩⟩
    obtain ⟨f1, f2, f3, f4⟩ := flat4_at l i hi
    have c1 := World.ownsRow.cellAt h (i * 4) (by omega)
    have c2 := World.ownsRow.cellAt h (i * 4 + 1) (by omega)
    have c3 := World.ownsRow.cellAt h (i * 4 + 2) (by omega)
    have c4 := World.ownsRow.cellAt h (i * 4 + 3) (by omega)
    rw [Nat.zero_add]
    exact ⟨by rw [c1, f1], by rw [c2, f2], by rw [c3, f3], by rw [c4, f4]⟩
theorem OwnT.slice {w : World} {B : Nat} {v : Value} {l : List Wnt} (h : OwnT w B v l) : ∃ a n c, v = .slice a n c := by
  rcases h.form with ⟨rfl, _⟩ | ⟨g, cap, rfl, _⟩
  · exact ⟨_, _, _, rfl⟩
  · exact ⟨_, _, _, rfl⟩
theorem OwnT.below {w w' : World} {B C : Nat} {v : Value} {l : List Wnt} (h : OwnT w B v l) (hb : Below C w w') (hC : w.heap.size ≤ C) : OwnT w' B v l :=
  World.ownsRow.kept h (grown_of_below hb hC none) (by cases v.ownBlock <;> simp)
theorem wts_add {w : World} {p : Addr} {l : List Wnt} (h : Wts w (some p) l) : ∀ j u, (flat4 l)[j]? = some u → w.cell? (p.add j) = some u := by
  intro j u hj
  have hlt : j < l.length * 4 := by
    have := (List.getElem?_eq_some_iff.1 hj).1
    rwa [flat4_length] at this
  obtain ⟨b, off, e, _, c1, c2, c3, c4⟩ := h.at (j / 4) (by omega)
  simp only [Option.some.injEq] at e
  subst e
  have ha : (⟨b, off, none⟩ : Addr).add j = ⟨b, off + j, none⟩ := by
    by_cases h0 : j = 0 <;> simp [Addr.add, h0]
  rw [ha]
  obtain ⟨f1, f2, f3, f4⟩ := flat4_at l (j / 4) (by omega)
  have hc : j % 4 = 0 ∨ j % 4 = 1 ∨ j % 4 = 2 ∨ j % 4 = 3 := by omega
  rcases hc with hc | hc | hc | hc
  · have e : j = j / 4 * 4 := by omega
    rw [e] at hj ⊢
    rw [f1] at hj; rw [c1]; exact hj
  · have e : j = j / 4 * 4 + 1 := by omega
    rw [e] at hj ⊢
    rw [f2] at hj; rw [← Nat.add_assoc, c2]; exact hj
  · have e : j = j / 4 * 4 + 2 := by omega
    rw [e] at hj ⊢
    rw [f3] at hj; rw [← Nat.add_assoc, c3]; exact hj
  · have e : j = j / 4 * 4 + 3 := by omega
    rw [e] at hj ⊢
    rw [f4] at hj; rw [← Nat.add_assoc, c4]; exact hj
theorem eqNilT (w : World) (a : Option Addr) (n c n' c' : Nat) : (binOp .eql 39 (.slice a n c) (.slice none n' c')).run Try.prog w = .ok (.bool a.isNone) w := Lib.run_eql_slice_nil w _ _ a n c n' c' Try.underlying39
set_option maxRecDepth 20000 in
theorem cloneT_some (p : Addr) (cap : Nat) (l : List Wnt) (w : World) (h : Wts w (some p) l) (hl : l.length ≤ 200) :
    Calls Try.prog 36 #[.slice (some p) l.length cap] w fun e w' => (∃ v, e = .returned v ∧ OwnT w' w.heap.size v l) ∧ Below w.heap.size w w' := by
  obtain ⟨i0, hi, hz0, hz1, hz2⟩ := info_parts infoWt
  have Hi := hid hi
  have Hz0 := hid hz0
  have Hz1 := hid hz1
  have Hz2 := hid hz2
  clear hi hz0 hz1 hz2
  have q := eqNilT
  have HA := hid h
  clear h
  go_enter Try.func36, Try.ntmps36
  go_wp2_with (at_builtin; refine wpList_append_own _ rfl _ _ 39 rfl w.heap.size 66 i0 (.agg #[.int .i64 0, .int .i64 0, .int .i64 0, .int .i64 0]) 4 32 Try.underlying39 Hi.out Hz0.out Hz1.out Hz2.out rfl (by decide) _ _ _ rfl (World.ownsRow_made w #[] 0 (Nat.le_refl _) (Nat.zero_le _) rfl) p l.length cap (flat4 l) rfl ?qc1 ?qc2 ?qc3 ?qc4 ?qc5 ?qc6 ?_)
  case qc1 => exact flat4_length l
  case qc2 => exact wts_add (HA.out.below (Below.alloc (Below.refl _ _) (Nat.le_refl _) _) (Nat.le_refl _))
  case qc3 => exact flat4_one l
  case qc4 => unfold maxLen; omega
  case qc5 => omega
  case qc6 => simp
  intro v' w1 hown hgrow hnil
  have HO : Hid (OwnT w1 w.heap.size v' l) := by
    show w1.ownsRow _ _ _ _ _ _
    simpa using hown
  have HB := hid (Below.grown (Below.alloc (Below.refl _ w) (Nat.le_refl _) _) hgrow (by simp) (by intro k hk; simp [Value.ownBlock] at hk; omega))
  obtain ⟨a, n, c, rfl⟩ := HO.out.slice
  clear hown hgrow hnil
  go_wp2
  go_ret
  exact ⟨⟨_, rfl, HO.out⟩, HB.out⟩
theorem cloneT_any (a : Option Addr) (cap : Nat) (l : List Wnt) (w : World) (h : Wts w a l) (nz : a = none → cap = 0) (hl : l.length ≤ 200) :
    Calls Try.prog 36 #[.slice a l.length cap] w fun e w' => (∃ v, e = .returned v ∧ OwnT w' w.heap.size v l) ∧ Below w.heap.size w w' := by
  cases a with
  | none =>
    obtain rfl := nz rfl
    obtain rfl : l = [] := by
      rcases h with h | ⟨b, off, h, _⟩
      · exact h
      · simp at h
    have q := eqNilT
    clear h nz hl
    go_enter Try.func36, Try.ntmps36
    go_wp2
    go_ret
    exact ⟨⟨_, rfl, OwnT.nil _ _⟩, Below.refl _ _⟩
  | some p => exact cloneT_some p cap l w h hl
theorem flatK_flat4 (ys : List Wnt) : flatK enc4 4 ys.toArray = (flat4 ys).toArray := by
  refine ext_get! (by simp [flat4_length]) fun t ht => ?_
  have ht' : t < ys.length * 4 := by simpa using ht
  rw [get_flatK _ _ _ t (by simpa using ht')]
  have hi : t / 4 < ys.length := by omega
  obtain ⟨f1, f2, f3, f4⟩ := flat4_at ys (t / 4) hi
  have e0 : ys.toArray[t / 4]! = ys.getD (t / 4) z4 := by
    simp [hi, List.getD]
  rw [e0]
  have hc : t % 4 = 0 ∨ t % 4 = 1 ∨ t % 4 = 2 ∨ t % 4 = 3 := by omega
  have hl : t < (flat4 ys).length := by rw [flat4_length]; omega
  rcases hc with hc | hc | hc | hc
  · rw [show t / 4 * 4 = t by omega, List.getElem?_eq_getElem hl] at f1
    simp only [Option.some.injEq] at f1
    rw [hc]
    simp [enc4, hl, f1]
  · rw [show t / 4 * 4 + 1 = t by omega, List.getElem?_eq_getElem hl] at f2
    simp only [Option.some.injEq] at f2
    rw [hc]
    simp [enc4, hl, f2]
  · rw [show t / 4 * 4 + 2 = t by omega, List.getElem?_eq_getElem hl] at f3
    simp only [Option.some.injEq] at f3
    rw [hc]
    simp [enc4, hl, f3]
  · rw [show t / 4 * 4 + 3 = t by omega, List.getElem?_eq_getElem hl] at f4
    simp only [Option.some.injEq] at f4
    rw [hc]
    simp [enc4, hl, f4]
theorem OwnT.holds {w : World} {B g cap : Nat} {l : List Wnt} (h : OwnT w B (.slice (some ⟨g, 0, none⟩) l.length cap) l) : HoldsK enc4 4 w g 0 l.toArray := by
  unfold HoldsK
  rw [flatK_flat4]
  intro j hj
  have hj' : j < (flat4 l).length := by simpa using hj
  have c := World.ownsRow.cellAt h j (by rw [flat4_length] at hj'; exact hj')
  have f := World.ownsRow.frozenAt h j
  rw [Nat.zero_add]
  refine ⟨?_, f⟩
  rw [c]
  simp [hj']
theorem OwnT.sorted {w : World} {B g cap q : Nat} {l ys : List Wnt} {os : Array Obj} (h : OwnT w B (.slice (some ⟨g, 0, none⟩) l.length cap) l) (hy : ys.length = l.length) :
    OwnT (sortWorldK enc4 4 w g 0 q ys.toArray os) B (.slice (some ⟨g, 0, none⟩) ys.length cap) ys ∧ w.grownBy (sortWorldK enc4 4 w g 0 q ys.toArray os) (some g) := by
  rcases h.2 with ⟨e0, _⟩ | ⟨g', cap', cur, e0, hb, hg, hn, hm, hs, ht⟩
  · cases e0
  · injection e0 with e1 _ e3
    injection e1 with e1
    injection e1 with e1
    subst e1; subst e3
    have hgl := (Array.getElem?_eq_some_iff.1 hg).1
    unfold sortWorldK putRowK
    rw [flatK_flat4]
    refine ⟨⟨flat4_length ys, .inr ⟨g, cap, putCells id 0 (flat4 ys).toArray cur, rfl, hb, ?_, by omega, hm, by simpa [putCells] using hs, ?_⟩⟩, ⟨rfl, rfl, rfl, ?_, ?_⟩⟩
    · rw [heap_grow_old _ _ (by simpa [putRow, mapBlock, Sort.ahead] using hgl)]
      simp [putRow, mapBlock, Sort.ahead, Array.getElem?_modify, hg, onCells]
    · apply List.ext_getElem?
      intro j
      rw [List.getElem?_take, Array.getElem?_toList]
      by_cases hj : j < ys.length * 4
      · have hjc : j < cur.size := by omega
        have hjf : j < (flat4 ys).length := by rw [flat4_length]; omega
        simp only [if_pos hj, putCells, Array.getElem?_mapIdx, Array.getElem?_eq_getElem hjc, Option.map_some]
        rw [if_pos (by simp [hjf]), List.getElem?_eq_getElem hjf]
        simp [hjf]
      · rw [if_neg hj, List.getElem?_eq_none (by rw [flat4_length]; omega)]
    · simp [putRow, mapBlock, Sort.ahead]
    · intro k hk hne
      rw [heap_grow_old _ _ (by simpa [putRow, mapBlock, Sort.ahead] using hk)]
      simp only [putRow, mapBlock, Sort.ahead, Array.getElem?_modify]
      rw [if_neg (by intro e; exact hne (by rw [e]))]
theorem reverseT_any (v : Value) (B : Nat) (l : List Wnt) (w : World) (h : OwnT w B v l) (hB : B ≤ w.heap.size) :
    Calls Try.prog 37 #[v] w fun e w' => e = .returned (.tuple #[]) ∧ OwnT w' B v l.reverse ∧ Below B w w' := by
  rcases h.form with ⟨rfl, rfl⟩ | ⟨g, cap, rfl, hb, hg, hc, hm⟩
  · have hcon := AnyQ.slices_Reverse_empty reverseWt none 0 w
    exact Calls.mono hcon fun e w' ⟨he, hw⟩ => ⟨he, by rw [hw]; exact h, by rw [hw]; exact Below.refl _ _⟩
  · have hcon := AnyQ.slices_Reverse reverseWt 4 Try.isAgg66 Try.sizeOf66 enc4 (fun _ => rfl) (fun x v hv => by simp [enc4] at hv; rcases hv with rfl | rfl | rfl | rfl <;> rfl) g 0 cap l.toArray w h.holds (by unfold maxLen at hm; simp; omega)
    change Calls Try.prog 37 _ _ _ at hcon
    simp only [List.size_toArray] at hcon
    refine hcon.mono ?_
    rintro e w' ⟨he, n, rfl⟩
    obtain ⟨h1, h2⟩ := h.sorted (q := n) (ys := l.reverse) (os := #[]) (by simp)
    unfold sortWorldK at h1 h2
    rw [grow_empty] at h1 h2
    rw [List.reverse_toArray]
    simp only [List.length_reverse] at h1
    exact ⟨he, h1, Below.grown (Below.refl _ _) h2 hB (fun k hk => by simp at hk; omega)⟩
end TabC
end Go.Proofs.Ytgehdpohiphcpaa
