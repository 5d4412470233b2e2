/- Contracts of package span: join. -/
import Derived.Test.YtepnlfnnancnfaaSpanS
import Derived.Test.YtepnlfnnancnfaaSpanN
import Derived.BigRegion
set_option linter.unusedVariables false
namespace Go.Proofs.Ytepnlfnnancnfaa
open Go.RowKit
open SpanM
namespace SpanC
/-- those that have times -/
def ne (l : List Sp) : List Sp := l.filter fun x => decide (x.1 < x.2)
theorem ne_snoc (l : List Sp) (x : Sp) : ne (l ++ [x]) = addL (ne l) x := by
  unfold ne addL
  rw [List.filter_append]
  by_cases h : x.1 < x.2 <;> simp [h]
theorem ne_len (l : List Sp) : (ne l).length ≤ l.length := List.length_filter_le _ _
theorem mem_ne (l : List Sp) (t : Int) : mem (ne l) t = mem l t := by
  rw [Bool.eq_iff_iff, mem_iff, mem_iff]
  constructor
  · rintro ⟨x, hx, h⟩
    exact ⟨x, (List.mem_filter.1 hx).1, h⟩
  · rintro ⟨x, hx, h⟩
    exact ⟨x, List.mem_filter.2 ⟨hx, by simp; omega⟩, h⟩
theorem nil_or_snoc (l : List Sp) : l = [] ∨ ∃ l' y, l = l' ++ [y] := by
  rcases List.eq_nil_or_concat l with h | ⟨a, b, h⟩
  · exact .inl h
  · exact .inr ⟨a, b, by rw [h, List.concat_eq_append]⟩
theorem flat_set (l : List Sp) (y : Sp) (t : Int) : (flat (l ++ [y])).set (l.length * 2 + 1) (.int .i64 t) = flat (l ++ [(y.1, t)]) := by
  rw [flat_append, flat_append, List.set_append_right _ _ (by rw [flat_length]; omega), flat_length]
  rw [show l.length * 2 + 1 - l.length * 2 = 1 by omega]
  rfl
theorem Own.setLast {w : World} {B g cap : Nat} {l : List Sp} {y : Sp} (t : Int) (h : Own w B (.slice (some ⟨g, 0, none⟩) (l ++ [y]).length cap) (l ++ [y])) :
    Own (w.setCell ⟨g, l.length * 2 + 1, none⟩ (.int .i64 t)) B (.slice (some ⟨g, 0, none⟩) (l ++ [(y.1, t)]).length cap) (l ++ [(y.1, t)]) := by
  have := (World.ownsRow.stored h (l.length * 2 + 1) (.int .i64 t)).1
  rw [flat_set] at this
  have e : (l ++ [(y.1, t)]).length = (l ++ [y]).length := by simp
  unfold Own
  rw [e]
  exact this

set_option maxRecDepth 20000 in
set_option maxHeartbeats 1000000 in
theorem join_any (size : Int) (a : Option Addr) (cap : Nat) (l : List Sp) (w : World) (hr : Sps w a l) (hl : l.length ≤ 400) (hs : size ≤ 1000000) (hx : ∀ x ∈ l, 0 ≤ x.1 ∧ x.1 ≤ x.2 ∧ x.2 ≤ size) :
    Calls Try.prog 47 #[.slice a l.length cap] w fun e w' => (∃ v r, e = .returned v ∧ Own w' w.heap.size v r ∧ good size (-1) r = true ∧ (∀ t, mem r t = mem l t) ∧ r.length ≤ l.length) ∧ Below w.heap.size w w' := by
  obtain ⟨i0, hi, hz0, hz1, hz2⟩ := info_parts infoSp
  have Hi := hid hi
  have Hz0 := hid hz0
  have Hz1 := hid hz1
  have Hz2 := hid hz2
  clear hi hz0 hz1 hz2
  have HR := hid hr
  have HX := hid hx
  clear hr hx
  go_enter Try.func47, Try.ntmps47
  go_wp2_with fail
  go_loopw [3, 12] (fun v3 v12 wr => ∃ (k : Nat), k ≤ l.length ∧ v12 = .int .i64 k ∧ Own wr w.heap.size v3 (ne (l.take k)) ∧ Below w.heap.size w wr) (fun _ v12 _ => l.length - (intOf v12).toNat)
  case atStart => exact ⟨0, by omega, rfl, Own.nil _ _, Below.refl _ _⟩
  case round =>
    obtain ⟨k, hk, rfl, ho, hb⟩ := hrel
    have HO := hid ho
    have HB := hid hb
    have hsz := hb.size
    have hnl : (ne (l.take k)).length ≤ 400 := by
      have := ne_len (l.take k)
      simp only [List.length_take] at this
      omega
    obtain ⟨p, n, c, rfl⟩ := ho.slice
    by_cases hlt : k < l.length
    · obtain ⟨b, off, rfl, hbw, d1, d2⟩ := (HR.out.below hb (Nat.le_refl _)).at k hlt
      have hd := take_snoc l k hlt
      clear ho hb
      generalize hz : l.getD k (0, 0) = z at d1 d2 hd
      obtain ⟨f, t⟩ := z
      have Hd := hid hd
      clear hz hd
      simp only at d1 d2
      go_wp2_with fail
      refine (add_any (.slice p n c) (ne (l.take k)) f t w.heap.size _ (World.ownsRow.alloc HO.out _) (by simp; omega) (by omega)).mono ?_
      rintro e w2 ⟨v', rfl, ho', hg'⟩
      have HB2 : Hid (Below w.heap.size w w2) := HB.out.trans (((Below.refl _ _).alloc hsz _).trans (below_grown (World.ownsRow.alloc HO.out _) hg' (Nat.le_refl _) (by simp; omega)))
      have HO2 := hid ho'
      clear hg' ho'
      go_wp2_with fail
      go_roundw
      case rel =>
        refine ⟨k + 1, by omega, by go_num, ?_, HB2.out⟩
        rw [Hd.out, ne_snoc]
        exact HO2.out
      case measure => simp [intOf]; omega
    · have he : l.take k = l := List.take_of_length_le (by omega)
      rw [he] at HO hnl
      clear ho hb he
      -- the sort: whatever order equals come in
      have hsort : ∀ W, Own W w.heap.size (.slice p n c) (ne l) → Below w.heap.size w W → Calls Try.prog 57 #[.slice p n c, .func (.func 58) #[] #[]] W fun e w' => e = .returned (.tuple #[]) ∧ ∃ ys : List Sp, n = ys.length ∧ ys.length = (ne l).length ∧ (∀ x, x ∈ ys ↔ x ∈ ne l) ∧ (∀ i j, i < j → j < ys.length → (ys.getD i (0, 0)).1 ≤ (ys.getD j (0, 0)).1) ∧ Own w' w.heap.size (.slice p n c) ys ∧ Below w.heap.size w w' := by
        intro W hO hB
        rcases hO.form with ⟨e0, e1⟩ | ⟨g, cp, e0, hg, hg2, _⟩
        · simp only [Value.slice.injEq] at e0
          obtain ⟨rfl, rfl, rfl⟩ := e0
          refine (sort_none W).mono ?_
          rintro e w' ⟨he, rfl⟩
          exact ⟨he, [], rfl, by rw [e1], fun x => by rw [e1], fun i j _ h => by simp at h, by rw [e1] at hO; exact hO, hB⟩
        · simp only [Value.slice.injEq] at e0
          obtain ⟨rfl, rfl, rfl⟩ := e0
          refine (sort_some w.heap.size g c (ne l) W hO (by omega)).mono ?_
          rintro e w' ⟨he, ys, h1, h2, h3, h4, h5⟩
          rw [h1] at h4
          exact ⟨he, ys, h1.symm, h1, h2, h3, h4, hB.trans (Below.grown (Below.refl _ _) h5 hB.size (fun k hk => by simp at hk; omega))⟩
      have HS := hid hsort
      clear hsort
      go_wp2_with fail
      refine (HS.out _ HO.out HB.out).mono ?_
      rintro e w2 ⟨rfl, ys, rfl, hy1, hy2, hy3, hy4, hb2⟩
      have HY2 := hid hy2
      have HY3 := hid hy3
      have HB2 := hid hb2
      have hys : ys.length ≤ 400 := by omega
      obtain ⟨a3, c3, e3, hs3, _⟩ := hy4.sps
      simp only [Value.slice.injEq] at e3
      obtain ⟨rfl, _, rfl⟩ := e3
      have HS3 := hid hs3
      have hyx : ∀ x ∈ ys, 0 ≤ x.1 ∧ x.1 < x.2 ∧ x.2 ≤ size := by
        intro x hx
        have h1 := (hy2 x).1 hx
        obtain ⟨h2, h3⟩ := List.mem_filter.1 h1
        simp at h3
        have := HX.out x h2
        omega
      have HYX := hid hyx
      have hym : ∀ t, mem ys t = mem l t := fun t => (mem_perm hy2 t).trans (mem_ne l t)
      have HYM := hid hym
      have hyl : ys.length ≤ l.length := by have := ne_len l; omega
      clear hy1 hy2 hy3 hy4 hb2 hs3 hyx hym HS HO HB
      go_wp2_with fail
      go_loopw [6, 24] (fun v6 v24 wr => ∃ (k : Nat) (acc : List Sp), k ≤ ys.length ∧ v24 = .int .i64 k ∧ Own wr w2.heap.size v6 acc ∧ Below w2.heap.size w2 wr ∧ Hid (Jinv size (ys.take k) acc)) (fun _ v24 _ => ys.length - (intOf v24).toNat)
      case atStart => exact ⟨0, [], by omega, rfl, Own.nil _ _, Below.refl _ _, Jinv.start size⟩
      case round =>
        obtain ⟨k, acc, hk, rfl, ho6, hb6, hJ⟩ := hrel
        have HO6 := hid ho6
        have HB6 := hid hb6
        have hsz2 := hb6.size
        have hal : acc.length ≤ 400 := by
          have := hJ.out.2.2.1
          simp only [List.length_take] at this
          omega
        by_cases hlt : k < ys.length
        · obtain ⟨b, off, rfl, hbw, d1, d2⟩ := (HS3.out.below hb6 (Nat.le_refl _)).at k hlt
          have hd := take_snoc ys k hlt
          have hxx := HYX.out (ys.getD k (0, 0)) (by simp [List.getD, hlt])
          have hsort : ∀ z ∈ ys.take k, z.1 ≤ (ys.getD k (0, 0)).1 := by
            intro z hz
            obtain ⟨i, hi, rfl⟩ := List.mem_iff_getElem.1 hz
            simp only [List.length_take] at hi
            have := HY3.out i k (by omega) hlt
            simpa [List.getD, show i < ys.length by omega] using this
          clear hb6
          generalize hz : ys.getD k (0, 0) = z at d1 d2 hd hxx hsort
          obtain ⟨f, t⟩ := z
          have Hd := hid hd
          have HSo := hid hsort
          clear hz hd hsort
          simp only at d1 d2 hxx
          obtain ⟨g1, g2, g3⟩ := hxx
          rcases nil_or_snoc acc with rfl | ⟨l', y, rfl⟩
          · -- the first one
            have hp0 := hid (hJ.out.2.2.2.1 rfl)
            obtain ⟨p6, n6, c6, hv6⟩ := ho6.slice
            have hn6 : n6 = 0 := by
              rcases ho6.form with ⟨e0, _⟩ | ⟨g, cp, e0, _⟩
              · rw [hv6] at e0; simp only [Value.slice.injEq] at e0; exact e0.2.1
              · rw [hv6] at e0; simp only [Value.slice.injEq] at e0; exact e0.2.1
            subst hn6
            subst hv6
            clear ho6
            go_wp2_with fail
            go_quiet (fail)
            go_wp2_with (at_builtin; refine wpList_append_own _ rfl _ _ 22 rfl w2.heap.size 45 i0 (.agg #[.int .i64 0, .int .i64 0]) 2 16 Try.underlying22 Hi.out Hz0.out Hz1.out Hz2.out rfl (by decide) _ ([] : List Sp).length (flat ([] : List Sp)) rfl ?qc0 ⟨wr.heap.size + 1, 0, none⟩ 1 1 [.int .i64 f, .int .i64 t] ?qcx ?qc1 ?qc2 ?qc3 ?qc4 ?qc5 ?qc6 ?_)
            case qc0 => first | exact World.ownsRow.alloc (World.ownsRow.alloc HO6.out _) _ | exact World.ownsRow.alloc (World.ownsRow.drew (World.ownsRow.alloc HO6.out _)) _ | exact World.ownsRow.alloc (ownsRow_drewN (World.ownsRow.alloc HO6.out _) _) _
            case qcx => rfl
            case qc1 => simp
            case qc2 =>
              intro j u hj
              match j, hj with
              | 0, hj => simp at hj; subst hj; exact World.cell?_alloc_at _ _ _ _ (by simp)
              | 1, hj => simp at hj; subst hj; exact World.cell?_alloc_at _ _ _ _ (by simp)
              | j + 2, hj => simp at hj
            case qc3 => intro u hu; simp at hu; rcases hu with rfl | rfl <;> rfl
            case qc4 => unfold maxLen; omega
            case qc5 => omega
            case qc6 => simp; omega
            intro v' w4 hown hgrow hnil
            have HO7 : Hid (Own w4 w2.heap.size v' (([] : List Sp) ++ [(f, t)])) := by
              show w4.ownsRow _ _ _ _ _ _
              rw [flat_append, List.length_append]
              exact hown
            have HB7 : Hid (Below w2.heap.size w2 w4) := HB6.out.trans (Below.grown (by first | exact Below.alloc (below_drewN (Below.alloc (Below.refl _ _) hsz2 _) _) (by simp; omega) _ | exact Below.alloc (Below.drew (Below.alloc (Below.refl _ _) hsz2 _)) (by simp; omega) _ | exact Below.alloc (Below.alloc (Below.refl _ _) hsz2 _) (by simp; omega) _) hgrow (by simp; omega) (fun k hk => (World.ownsRow.lt HO6.out k hk).1))
            clear hown hgrow hnil
            go_wp2_with fail
            go_roundw
            case rel =>
              refine ⟨k + 1, [(f, t)], by omega, by go_num, HO7.out, HB7.out, ?_⟩
              rw [Hd.out, hp0.out]
              exact Jinv.first ⟨g1, g2, g3⟩
            case measure => simp [intOf]; omega
          · rcases ho6.form with ⟨_, e1⟩ | ⟨g6, c6, rfl, hg6, hg7, _⟩
            · simp at e1
            · have hln : (l' ++ [y]).length = l'.length + 1 := by simp
              have e1 := World.ownsRow.cellAt ho6 (l'.length * 2 + 1) (by rw [hln]; omega)
              have e2 := (flat_at (l' ++ [y]) l'.length (by rw [hln]; omega)).2
              rw [e2] at e1
              have e3 : (l' ++ [y]).getD l'.length (0, 0) = y := by simp [List.getD]
              rw [e3] at e1
              have e4 := World.ownsRow.frozenAt ho6 (l'.length * 2 + 1)
              clear e2 e3 ho6
              have hln2 : (((l' ++ [y]).length : Nat) : Int) = (l'.length : Int) + 1 := by rw [hln]; omega
              have Hln := hid hln
              generalize hq : (l' ++ [y]).length = q at *
              have Hq := hid hq
              clear hq hln
              obtain rfl : q = l'.length + 1 := Hln.out
              clear hln2 Hln
              generalize hq2 : l'.length = q at *
              have Hq2 := hid hq2
              clear hq2
              obtain ⟨y1, y2⟩ := y
              simp only at e1
              by_cases ho : f ≤ y2
              · have HJ2 : Hid (Jinv size (ys.take (k + 1)) (l' ++ [(y1, max y2 t)])) := by
                  show Jinv _ _ _
                  rw [Hd.out]
                  exact Jinv.longer hJ.out ⟨g1, g2, g3⟩ HSo.out ho
                go_wp2_with fail
                go_quiet (fail)
                go_wp2_with fail
                have HSL : Hid (∀ n m u, u = max y2 t → Own ((((wr.alloc (.cells #[.int .i64 f, .int .i64 t] 45)).drewN n).setCell ⟨g6, q * 2 + 1, none⟩ (.int .i64 u)).drewN m) w2.heap.size (.slice (some ⟨g6, 0, none⟩) (q + 1) c6) (l' ++ [(y1, max y2 t)])) := by
                  intro n m u hu
                  subst hu
                  have h1 : Own wr w2.heap.size (.slice (some ⟨g6, 0, none⟩) (l' ++ [(y1, y2)]).length c6) (l' ++ [(y1, y2)]) := by rw [Hq.out]; exact HO6.out
                  have h2 : Own ((wr.alloc (.cells #[.int .i64 f, .int .i64 t] 45)).drewN n) w2.heap.size (.slice (some ⟨g6, 0, none⟩) (l' ++ [(y1, y2)]).length c6) (l' ++ [(y1, y2)]) := World.ownsRow.alloc h1 _
                  have h3 := h2.setLast (max y2 t)
                  rw [Hq2.out] at h3
                  have h4 : (l' ++ [((y1, y2).1, max y2 t)]).length = q + 1 := by simp [Hq2.out]
                  rw [h4] at h3
                  exact h3
                go_region
                all_goals
                  go_wp2_with fail
                  go_roundw
                  case rel => exact ⟨k + 1, l' ++ [(y1, max y2 t)], by omega, by go_num, by (first | exact HSL.out _ 0 _ (by omega) | exact HSL.out _ 1 _ (by omega) | exact (HSL.out _ 0 _ (by omega)).drew), by (first | exact HB6.out.trans (Below.setCell (below_drewN (Below.alloc (Below.refl _ _) hsz2 _) _) (by simpa using hg6) _) | exact (HB6.out.trans (Below.setCell (below_drewN (Below.alloc (Below.refl _ _) hsz2 _) _) (by simpa using hg6) _)).drew), HJ2⟩
                  case measure => simp [intOf]; omega
              · have HJ2 : Hid (Jinv size (ys.take (k + 1)) (l' ++ [(y1, y2)] ++ [(f, t)])) := by
                  show Jinv _ _ _
                  rw [Hd.out]
                  exact Jinv.more hJ.out ⟨g1, g2, g3⟩ ho
                have HO6' : Hid (wr.ownsRow w2.heap.size 45 2 (.slice (some ⟨g6, 0, none⟩) (q + 1) c6) (q + 1) (flat (l' ++ [(y1, y2)]))) := by
                  have h : wr.ownsRow _ _ _ _ (l' ++ [(y1, y2)]).length _ := HO6.out
                  rw [Hq.out] at h
                  exact h
                go_wp2_with fail
                go_quiet (fail)
                go_wp2_with (at_builtin; refine wpList_append_own _ rfl _ _ 22 rfl w2.heap.size 45 i0 (.agg #[.int .i64 0, .int .i64 0]) 2 16 Try.underlying22 Hi.out Hz0.out Hz1.out Hz2.out rfl (by decide) _ (q + 1) (flat (l' ++ [(y1, y2)])) rfl ?qc0 ⟨wr.heap.size + 1, 0, none⟩ 1 1 [.int .i64 f, .int .i64 t] ?qcx ?qc1 ?qc2 ?qc3 ?qc4 ?qc5 ?qc6 ?_)
                case qc0 => first | exact World.ownsRow.alloc (World.ownsRow.alloc HO6'.out _) _ | exact World.ownsRow.alloc (World.ownsRow.drew (World.ownsRow.alloc HO6'.out _)) _ | exact World.ownsRow.alloc (ownsRow_drewN (World.ownsRow.alloc HO6'.out _) _) _
                case qcx => rfl
                case qc1 => simp
                case qc2 =>
                  intro j u hj
                  match j, hj with
                  | 0, hj => simp at hj; subst hj; exact World.cell?_alloc_at _ _ _ _ (by simp)
                  | 1, hj => simp at hj; subst hj; exact World.cell?_alloc_at _ _ _ _ (by simp)
                  | j + 2, hj => simp at hj
                case qc3 => intro u hu; simp at hu; rcases hu with rfl | rfl <;> rfl
                case qc4 => unfold maxLen; omega
                case qc5 => omega
                case qc6 => simp; omega
                intro v' w4 hown hgrow hnil
                have HO7 : Hid (Own w4 w2.heap.size v' ((l' ++ [(y1, y2)]) ++ [(f, t)])) := by
                  show w4.ownsRow _ _ _ _ _ _
                  rw [flat_append, List.length_append, Hq.out]
                  exact hown
                have HB7 : Hid (Below w2.heap.size w2 w4) := HB6.out.trans (Below.grown (by first | exact Below.alloc (below_drewN (Below.alloc (Below.refl _ _) hsz2 _) _) (by simp; omega) _ | exact Below.alloc (Below.drew (Below.alloc (Below.refl _ _) hsz2 _)) (by simp; omega) _ | exact Below.alloc (Below.alloc (Below.refl _ _) hsz2 _) (by simp; omega) _) hgrow (by simp; omega) (fun k hk => (World.ownsRow.lt HO6'.out k hk).1))
                clear hown hgrow hnil
                go_wp2_with fail
                go_roundw
                case rel => exact ⟨k + 1, _, by omega, by go_num, HO7.out, HB7.out, HJ2⟩
                case measure => simp [intOf]; omega
        · have hy : ys.take k = ys := List.take_of_length_le (by omega)
          rw [hy] at hJ
          obtain ⟨p6, n6, c6, rfl⟩ := ho6.slice
          clear ho6 hb6 hy
          go_wp2_with fail
          go_ret
          refine ⟨⟨_, acc, rfl, HO6.out.base HB2.out.size, hJ.out.1, fun t => (hJ.out.2.1 t).trans (HYM.out t), Nat.le_trans hJ.out.2.2.1 hyl⟩, HB2.out.trans (HB6.out.mono HB2.out.size)⟩
end SpanC
end Go.Proofs.Ytepnlfnnancnfaa
