/- Lists of edges in memory: EdgesOf; slices.Sort and slices.Compact at []int. -/
import Derived.Test.YtlhkjdghefbnfaaSpanX
import Derived.Test.YtlhkjdghefbnfaaSpanQ
import Derived.Test.YtlhkjdghefbnfaaSpanR
import Derived.Test.YtlhkjdghefbnfaaShelf
import Derived.Lib.OwnBridge
set_option linter.unusedVariables false
namespace Go.Proofs.Ytlhkjdghefbnfaa
open Go.RowKit Go.Shelf Go.Sort
open SpanM
namespace SpanC
theorem infoInt : (Try.prog.info? 3).map (fun i => (i.zero, i.size, i.bytes)) = some (some (.int .i64 0), 1, 8) := by kernel_rfl
/-- numbers that a call has made -/
def OwnI (w : World) (B : Nat) (v : Value) (zs : List Int) : Prop := w.ownsRow B 3 1 v zs.length (zs.map (Value.int .i64))
theorem OwnI.form {w : World} {B : Nat} {v : Value} {l : List Int} (h : OwnI w B v l) : (v = .slice none 0 0 ∧ l = []) ∨ ∃ g cap, v = .slice (some ⟨g, 0, none⟩) l.length cap ∧ B ≤ g ∧ g < w.heap.size ∧ l.length ≤ cap ∧ cap ≤ maxLen := by
  rcases h.2 with ⟨rfl, h0⟩ | ⟨g, cap, cur, rfl, hb, hg, h1, h2, _⟩
  · exact .inl ⟨rfl, List.length_eq_zero_iff.1 h0⟩
  · exact .inr ⟨g, cap, rfl, hb, (Array.getElem?_eq_some_iff.1 hg).1, h1, h2⟩
theorem OwnI.slice {w : World} {B : Nat} {v : Value} {l : List Int} (h : OwnI w B v l) : ∃ a n c, v = .slice a n c := by
  rcases h.form with ⟨rfl, _⟩ | ⟨g, cap, rfl, _⟩
  · exact ⟨_, _, _, rfl⟩
  · exact ⟨_, _, _, rfl⟩
theorem OwnI.below {w w' : World} {B C : Nat} {v : Value} {l : List Int} (h : OwnI w B v l) (hb : Below C w w') (hC : w.heap.size ≤ C) : OwnI w' B v l :=
  World.ownsRow.kept h (grown_of_below hb hC none) (by cases v.ownBlock <;> simp)
theorem OwnI.cell {w : World} {B g cap n : Nat} {l : List Int} (h : OwnI w B (.slice (some ⟨g, 0, none⟩) n cap) l) (k : Nat) (hk : k < l.length) : w.cell? ⟨g, k, none⟩ = some (.int .i64 (l.getD k 0)) := by
  have hn : n = l.length := by
    rcases h.form with ⟨e, _⟩ | ⟨g', cp, e, _⟩
    · simp at e
    · simp only [Value.slice.injEq] at e; exact e.2.1
  subst hn
  have := World.ownsRow.cellAt h k (by omega)
  rw [this]; simp [hk, List.getD]
/-- lists of spans, as they are handed on to EdgesOf -/
def Lists (w : World) (B : Nat) (ls : List (Option Addr × Nat × List Sp)) : Prop :=
  ∀ i x, ls[i]? = some x → w.cell? ⟨B, i, none⟩ = some (.slice x.1 x.2.2.length x.2.1) ∧ Sps w x.1 x.2.2
def allOf (ls : List (Option Addr × Nat × List Sp)) : List Sp := ls.flatMap fun x => x.2.2
theorem allOf_snoc (ls : List (Option Addr × Nat × List Sp)) (x : Option Addr × Nat × List Sp) : allOf (ls ++ [x]) = allOf ls ++ x.2.2 := by simp [allOf]
theorem Lists.below {w w' : World} {B : Nat} {ls : List (Option Addr × Nat × List Sp)} (h : Lists w B ls) (hb : Below w.heap.size w w') : Lists w' B ls := by
  intro i x hx
  obtain ⟨h1, h2⟩ := h i x hx
  exact ⟨(hb.cell (World.block_lt_of_cell? w _ h1)).trans h1, h2.below hb (Nat.le_refl _)⟩
set_option maxRecDepth 20000 in
set_option maxHeartbeats 1000000 in
theorem edgesOf_any (B c : Nat) (ls : List (Option Addr × Nat × List Sp)) (w : World) (h : Lists w B ls) (hl : (allOf ls).length ≤ 4000000) (hn : ls.length ≤ 2) :
    Calls Try.prog 15 #[.slice (some ⟨B, 0, none⟩) ls.length c] w fun e w' => (∃ v, e = .returned v ∧ OwnI w' w.heap.size v (edges (allOf ls))) ∧ Below w.heap.size w w' := by
  obtain ⟨i0, hi, hz0, hz1, hz2⟩ := info_parts infoInt
  have Hi := hid hi
  have Hz0 := hid hz0
  have Hz1 := hid hz1
  have Hz2 := hid hz2
  have HL := hid hl
  have HS := hid h
  clear hi hz0 hz1 hz2 hl h
  go_enter Try.func15, Try.ntmps15
  go_wp2_with fail
  go_loopw [3, 10] (fun v3 v10 wr => ∃ k : Nat, k ≤ ls.length ∧ v10 = .int .i64 k ∧ OwnI wr w.heap.size v3 (edges (allOf (ls.take k))) ∧ Below w.heap.size w wr) (fun _ v10 _ => ls.length - (intOf v10).toNat)
  case atStart => exact ⟨0, by omega, rfl, World.ownsRow_nil _ _ _ _, Below.refl _ _⟩
  case round =>
    obtain ⟨k, hk, rfl, ho, hb⟩ := hrel
    have HO := hid ho
    have HB := hid hb
    obtain ⟨p3, n3, c3, hv3⟩ := ho.slice
    subst hv3
    by_cases hlt : k < ls.length
    · obtain ⟨x, hx⟩ : ∃ x, ls[k]? = some x := ⟨_, List.getElem?_eq_getElem hlt⟩
      obtain ⟨q1, q2⟩ := HS.out.below hb k x hx
      have hts : ls.take (k + 1) = ls.take k ++ [x] := by
        obtain ⟨h1, rfl⟩ := List.getElem?_eq_some_iff.1 hx
        exact List.take_succ_eq_append_getElem h1
      have hbd : (allOf (ls.take k)).length + x.2.2.length ≤ 4000000 := by
        have h1 : (allOf (ls.take (k + 1))).length ≤ (allOf ls).length := by
          have : allOf ls = allOf (ls.take (k + 1)) ++ allOf (ls.drop (k + 1)) := by
            unfold allOf; rw [← List.flatMap_append, List.take_append_drop]
          rw [this]; simp
        rw [hts, allOf_snoc, List.length_append] at h1
        have := HL.out
        omega
      obtain ⟨ax, cx, lx⟩ := x
      simp only at q1 q2 hbd
      have HBD := hid hbd
      have HTS := hid hts
      have Q2 := hid (HS.out k _ hx).2
      clear ho hb hbd hts q2 hx
      generalize hP : allOf (ls.take k) = P at *
      have HP := hid hP
      clear hP
      go_wp2_with fail
      go_loopw [3, 16] (fun v3 v16 ws => ∃ j : Nat, j ≤ lx.length ∧ v16 = .int .i64 j ∧ OwnI ws w.heap.size v3 (edges P ++ edges (lx.take j)) ∧ Below w.heap.size w ws ∧ True) (fun _ v16 _ => lx.length - (intOf v16).toNat)
      case atStart => exact ⟨0, by omega, rfl, by simpa [edges] using HO.out, HB.out, trivial⟩
      case round =>
        obtain ⟨j, hj, rfl, hos, hbs, hbr⟩ := hrel
        have HOS := hid hos
        have HBS := hid hbs
        have hsz := hbs.size
        obtain ⟨p4, n4, c4, hv4⟩ := hos.slice
        subst hv4
        by_cases hjl : j < lx.length
        · obtain ⟨b, off, rfl, hbw, d1, d2⟩ := (Q2.out.below hbs (Nat.le_refl _)).at j hjl
          have hd := take_snoc lx j hjl
          generalize lx.getD j (0, 0) = z at d1 d2 hd
          obtain ⟨f, t⟩ := z
          simp only at d1 d2
          have HE : Hid (edges P ++ edges (lx.take (j + 1)) = (edges P ++ edges (lx.take j)) ++ [f, t]) := by
            show _ = _
            rw [hd, edges_append]; simp [edges]
          have HN : Hid ((edges P ++ edges (lx.take j)).length ≤ 8000000) := by
            show _ ≤ _
            have := HBD.out
            rw [List.length_append, edges_length, edges_length, List.length_take]
            omega
          clear hd hos hbs hbr
          have HJL := hid hjl
          have hjb : (j : Int) ≤ 4000000 := by have := HBD.out; omega
          generalize edges P ++ edges (lx.take j) = Z at *
          go_wp2_with (at_builtin; refine wpList_append_own _ rfl _ _ 32 rfl w.heap.size 3 i0 (.int .i64 0) 1 8 Try.underlying32 Hi.out Hz0.out Hz1.out Hz2.out rfl (by decide) _ Z.length (Z.map (Value.int .i64)) rfl ?qc0 ⟨wr.heap.size + 1, 0, none⟩ 2 2 [.int .i64 f, .int .i64 t] ?qcx ?qc1 ?qc2 ?qc3 ?qc4 ?qc5 ?qc6 ?_)
          case qc0 => exact World.ownsRow.alloc (World.ownsRow.alloc HOS.out _) _
          case qcx => rfl
          case qc1 => simp
          case qc2 =>
            intro i u hi
            match i, hi with
            | 0, hi => simp at hi; subst hi; exact World.cell?_alloc_at _ _ _ _ (by simp)
            | 1, hi => simp at hi; subst hi; exact World.cell?_alloc_at _ _ _ _ (by simp)
            | i + 2, hi => simp at hi
          case qc3 => intro u hu; simp at hu; rcases hu with rfl | rfl <;> rfl
          case qc4 => have := HN.out; unfold maxLen; omega
          case qc5 => have := HN.out; omega
          case qc6 => simp; omega
          intro v' w7 hown hgrow hnil
          have HO7 : Hid (OwnI w7 w.heap.size v' (Z ++ [f, t])) := by
            show w7.ownsRow _ _ _ _ _ _
            simpa using hown
          have HB7 := hid (HBS.out.trans (Below.grown (Below.alloc (Below.alloc (Below.refl _ _) hsz _) (by simp; omega) _) hgrow (by simp; omega) (fun k hk => (World.ownsRow.lt HOS.out k hk).1)))
          clear hown hgrow hnil
          go_wp2_with fail
          go_roundw
          case rel => exact ⟨j + 1, by have := HJL.out; omega, by go_num, by rw [HE.out]; exact HO7.out, HB7.out, trivial⟩
          case measure => have := HJL.out; simp [intOf]; omega
        · have he : lx.take j = lx := List.take_of_length_le (by omega)
          rw [he] at HOS
          clear hos hbs hbr
          go_wp2_with fail
          go_roundw
          case rel =>
            refine ⟨k + 1, by omega, by go_num, ?_, HBS.out⟩
            have h := HOS.out
            rw [← edges_append] at h
            have e : allOf (ls.take (k + 1)) = P ++ lx := by rw [HTS.out, allOf_snoc, HP.out]
            rw [e]; exact h
          case measure => simp [intOf]; omega
    · have he : ls.take k = ls := List.take_of_length_le (by omega)
      rw [he] at HO
      clear ho hb
      go_wp2_with fail
      go_ret
      exact ⟨⟨_, rfl, HO.out⟩, HB.out⟩
end SpanC
end Go.Proofs.Ytlhkjdghefbnfaa
