/- SetOf. -/
import Derived.Test.YtgehdpohiphcpaaTabG
import Derived.BigRegion
set_option linter.unusedVariables false
namespace Go.Proofs.Ytgehdpohiphcpaa
open Go.RowKit
open SpanM
namespace SpanC
/-- what an edge's question answers -/
def Asks (size : Int) (g : Nat) (cb : Array Value) (p : Int → Bool) (w : World) : Prop :=
  ∀ W t, Below w.heap.size w W → 0 ≤ t → t < size → Calls Try.prog g (#[.int .i64 t] ++ cb) W fun e w' => e = .returned (.bool (p t)) ∧ Below W.heap.size W w'
theorem lit2 (w : World) (o : Obj) (x y : Value) : ((w.alloc o).alloc (.cells #[x, y] 3)).ownsRow (w.heap.size + 1) 3 1 (.slice (some ⟨w.heap.size + 1, 0, none⟩) 2 2) 2 [x, y] := by
  have h := World.ownsRow_lit (base := w.heap.size + 1) (e := 3) (size := 1) (w.alloc o) #[x, y] 2 (by simp) (by simp [maxLen]) rfl
  rw [World.size_alloc] at h
  exact h
theorem edg_tidy {size : Int} {p : Int → Bool} {es : List Int} (hs : 1 ≤ size) (hp : ∀ c u, 0 ≤ c → c ≤ u → u < size → (∀ y ∈ es, y ≤ c ∨ u < y) → p u = p c) : Edg size p (tidy ([0, size] ++ es)) where
  asc := tidy_lt _
  zero := (tidy_mem _ _).2 (by simp)
  last := (tidy_mem _ _).2 (by simp)
  pos := hs
  same := fun c u h1 h2 h3 h4 => hp c u h1 h2 h3 fun y hy => h4 y ((tidy_mem _ _).2 (by simp [hy]))
set_option maxRecDepth 20000 in
set_option maxHeartbeats 2000000 in
theorem setOf_any (size : Int) (ve : Value) (es : List Int) (B0 g : Nat) (cb : Array Value) (p : Int → Bool) (w : World) (hs1 : 1 ≤ size) (hs2 : size ≤ 1000000) (he : OwnI w B0 ve es) (hl : es.length ≤ 8000000)
    (eg : ∀ args w, (callFunc g args).run Try.prog w = .ok (.enter g args) w) (hin : Asks size g cb p w) (hp : ∀ c u, 0 ≤ c → c ≤ u → u < size → (∀ y ∈ es, y ≤ c ∨ u < y) → p u = p c) :
    Calls Try.prog 42 #[.int .i64 size, ve, .func (.func g) #[] cb] w fun e w' => (∃ v r, e = .returned (.agg #[.int .i64 size, v]) ∧ Own w' w.heap.size v r ∧ good size (-1) r = true ∧ ∀ u, mem r u = (decide (0 ≤ u ∧ u < size) && p u)) ∧ Below w.heap.size w w' := by
  obtain ⟨i0, hi, hz0, hz1, hz2⟩ := info_parts infoInt
  have Hi := hid hi
  have Hz0 := hid hz0
  have Hz1 := hid hz1
  have Hz2 := hid hz2
  clear hi hz0 hz1 hz2
  obtain ⟨i1, hi, hz0, hz1, hz2⟩ := info_parts infoSp
  have Ji := hid hi
  have Jz0 := hid hz0
  have Jz1 := hid hz1
  have Jz2 := hid hz2
  clear hi hz0 hz1 hz2
  have HE := hid he
  have HL := hid hl
  have HIN := hid hin
  have HP := hid hp
  have hEd := edg_tidy hs1 hp
  have HED := hid hEd
  clear hl hin hp hEd
  have hZl : ([0, size] ++ es).length ≤ 10000000 := by have := HL.out; simp; omega
  have HZL := hid hZl
  clear hZl
  rcases he.form with ⟨rfl, hes⟩ | ⟨gq, cq, rfl, _, hgq, _⟩
  · clear he
    go_enter Try.func42, Try.ntmps42
    go_wp2_with (at_builtin; refine wpList_append_own_none rfl _ _ 74 rfl (w.heap.size + 1) 3 i0 1 Try.underlying74 Hi.out _ 2 [.int .i64 0, .int .i64 size] rfl ?qc0 rfl ?_)
    case qc0 => exact lit2 w _ _ _
    obtain ⟨v1, hv1⟩ : ∃ v1, v1 = Value.slice (some ⟨w.heap.size + 1, 0, none⟩) 2 2 := ⟨_, rfl⟩
    obtain ⟨w1, hw1⟩ : ∃ w1, w1 = (w.alloc (.cells #[.int .i64 0, .slice none 0 0] 30)).alloc (.cells #[.int .i64 0, .int .i64 size] 3) := ⟨_, rfl⟩
    have OWN1 : Hid (OwnI w1 (w.heap.size + 1) v1 ([0, size] ++ es)) := by
      show w1.ownsRow _ _ _ _ _ _
      rw [hw1, hv1, hes]
      exact lit2 w _ _ _
    have BE1 : Hid (Below (w.heap.size + 1) (w.alloc (.cells #[.int .i64 0, .slice none 0 0] 30)) w1) := by
      rw [hw1]
      exact Below.alloc (Below.refl _ _) (by simp) _
    rw [← hv1, ← hw1]
    clear hes hv1 hw1
    generalize [0, size] ++ es = ZZ at *
    obtain ⟨g1, c1, hv1, hg1, hg1s, hc1, _⟩ : ∃ g1 c1, v1 = .slice (some ⟨g1, 0, none⟩) ZZ.length c1 ∧ w.heap.size + 1 ≤ g1 ∧ g1 < w1.heap.size ∧ ZZ.length ≤ c1 ∧ c1 ≤ maxLen := by
      rcases OWN1.out.form with ⟨_, e⟩ | h
      · have := HED.out.zero
        rw [e] at this
        simp [tidy, Lib.compact, Lib.compactUpTo] at this
      · exact h
    subst hv1
    go_wp2_with fail
    refine (sortI_any (w.heap.size + 1) g1 c1 ZZ w1 OWN1.out (by have := BE1.out.size; simpa using this) HZL.out).mono ?_
    rintro e w2 ⟨rfl, ho2, b2⟩
    have hcon := compactI_any (w.heap.size + 1) g1 c1 (ZZ.mergeSort fun x y => decide (x ≤ y)) w2 (by rw [List.length_mergeSort]; exact ho2) (by rw [List.length_mergeSort]; exact HZL.out)
    rw [List.length_mergeSort] at hcon
    change Calls Try.prog 64 _ _ (fun e w' => e = .returned (.slice (some ⟨g1, 0, none⟩) (tidy ZZ).length c1) ∧ OwnI w' (w.heap.size + 1) (.slice (some ⟨g1, 0, none⟩) (tidy ZZ).length c1) (tidy ZZ) ∧ Below (w.heap.size + 1) w2 w') at hcon
    have htl := tidy_len ZZ
    have HTL := hid (Nat.le_trans htl HZL.out)
    generalize tidy ZZ = E at *
    have HCON := hid hcon
    have BE2 := hid (BE1.out.trans b2)
    clear hcon htl ho2 b2
    go_wp2_with fail
    refine HCON.out.mono ?_
    rintro e w3 ⟨rfl, ho3, b3⟩
    have BE3 := hid (BE2.out.trans b3)
    have OE := hid ho3
    have hR : w.heap.size < w3.heap.size := by have := BE3.out.size; simp at this; omega
    have BEW := hid (of_alloc BE3.out)
    have RB := hid ((RBox.alloc0 w).step (BE3.out) (Nat.le_refl _))
    have HEl : Hid (E.length ≤ 10000000) := HTL.out
    clear HCON BE1 BE2 OWN1 b3 ho3
    go_wp2_with fail
    go_loopw [8, 24] (fun v8 v24 wr => ∃ (k : Nat) (on : Bool) (acc : List Sp) (v : Value), k ≤ E.length ∧ v8 = .bool on ∧ v24 = .int .i64 k ∧ Hid (Sinv size p E k acc on) ∧ acc.length ≤ k ∧ Own wr (w3.heap.size + 1) v acc ∧ Below w3.heap.size w3 wr ∧ w3.heap.size < wr.heap.size ∧ wr.cell? ⟨w3.heap.size, 0, none⟩ = some (.int .i64 size) ∧ wr.cell? ⟨w3.heap.size, 1, none⟩ = some v ∧ wr.frozen? ⟨w3.heap.size, 1, none⟩ = false) (fun _ v24 _ => E.length - (intOf v24).toNat)
    case atStart => exact ⟨0, false, [], .slice none 0 0, by omega, rfl, rfl, Sinv.start size p E, by simp, Own.nil _ _, Below.alloc (Below.refl _ _) (Nat.le_refl _) _, by simp, World.cell?_alloc_at _ _ _ _ rfl, World.cell?_alloc_at _ _ _ _ rfl, World.frozen?_alloc_at _ _ _ _ rfl⟩
    case round =>
      obtain ⟨k, on, acc, v, hk, rfl, rfl, hS, hal, ho, hb, hs3, q0, q1, q2⟩ := hrel
      have HO := hid ho
      have HB := hid hb
      obtain ⟨pv, nv, cv, hv⟩ := ho.slice
      subst hv
      have hkb : (k : Int) ≤ 10000000 := by have := HEl.out; omega
      by_cases hlt : k < E.length
      · have d1 := OE.out.below hb (Nat.le_refl _) |>.cell k hlt
        have hEk : E[k]? = some (E.getD k 0) := by simp [hlt, List.getD]
        generalize E.getD k 0 = t at d1 hEk
        have HEk := hid hEk
        have HLT := hid hlt
        have hin := hid (fun (h0 : 0 ≤ t) (h1 : t < size) => HIN.out wr t (bel_of BEW.out hb) h0 h1)
        clear hEk hb
        by_cases hr : 0 ≤ t ∧ t ≤ size
        · obtain ⟨t0, t1⟩ := hr
          by_cases ts : t < size
          · cases hpt : p t with
            | true =>
              rw [hpt] at hin
              cases on with
              | false =>
                go_wp2_with fail
                refine (TabC.btw_yes _ _ _ _ t0 t1).mono ?_
                rintro e w' ⟨rfl, rfl⟩
                go_wp2_with fail
                refine (hin.out t0 ts).mono ?_
                rintro e w5 ⟨rfl, b5⟩
                have OW := hid (HO.out.below b5 (Nat.le_refl _))
                have BW := hid (HB.out.trans (b5.mono (by omega)))
                have hsW : w3.heap.size < w5.heap.size := Nat.lt_of_lt_of_le hs3 b5.size
                have Q0 : w5.cell? ⟨w3.heap.size, 0, none⟩ = some (.int .i64 size) := (b5.cell hs3).trans q0
                have Q1 : w5.cell? ⟨w3.heap.size, 1, none⟩ = some (.slice pv nv cv) := (b5.cell hs3).trans q1
                have Q2 : w5.frozen? ⟨w3.heap.size, 1, none⟩ = false := (b5.frozen hs3).trans q2
                clear b5 q0 q1 q2
                have HS2 := hid (Sinv.begin HED.out hS.out HEk.out t0 ts hpt)
                clear hpt
                go_wp2_with (at_builtin; refine wpList_append_own _ rfl _ _ 28 rfl (w3.heap.size + 1) 53 i1 (.agg #[.int .i64 0, .int .i64 0]) 2 16 Try.underlying28 Ji.out Jz0.out Jz1.out Jz2.out rfl (by decide) _ acc.length (flat acc) rfl ?qc0 ⟨w5.heap.size, 0, none⟩ 1 1 [.int .i64 t, .int .i64 0] ?qcx ?qc1 ?qc2 ?qc3 ?qc4 ?qc5 ?qc6 ?_)
                case qc0 => exact World.ownsRow.alloc OW.out _
                case qcx => rfl
                case qc1 => simp
                case qc2 =>
                  intro j u hj
                  match j, hj with
                  | 0, hj => simp at hj; subst hj; exact World.cell?_alloc_at _ _ _ _ rfl
                  | 1, hj => simp at hj; subst hj; exact World.cell?_alloc_at _ _ _ _ rfl
                  | j + 2, hj => simp at hj
                case qc3 => intro u hu; simp at hu; rcases hu with rfl | rfl <;> rfl
                case qc4 => have := HEl.out; unfold maxLen; omega
                case qc5 => have := HEl.out; omega
                case qc6 => simp; omega
                intro v' w6 hown hgrow hnil
                have HO6 : Hid (Own w6 (w3.heap.size + 1) v' (acc ++ [(t, 0)])) := by
                  show w6.ownsRow _ _ _ _ _ _
                  rw [flat_append, List.length_append]
                  exact hown
                have hSo : some w3.heap.size ≠ (Value.slice pv nv cv).ownBlock := by
                  intro h
                  have := (World.ownsRow.lt OW.out _ h.symm).1
                  omega
                have R0 : w6.cell? ⟨w3.heap.size, 0, none⟩ = some (.int .i64 size) := hgrow.cell (Lib.cell?_alloc_some _ Q0) (by simpa using hSo)
                have R1 : w6.cell? ⟨w3.heap.size, 1, none⟩ = some (.slice pv nv cv) := hgrow.cell (Lib.cell?_alloc_some _ Q1) (by simpa using hSo)
                have R2 : w6.frozen? ⟨w3.heap.size, 1, none⟩ = false := (hgrow.frozen_far ⟨w3.heap.size, 1, none⟩ (by simp; omega) (by simpa using hSo)).trans ((World.frozen?_alloc_past _ _ _ hsW).trans Q2)
                have hs6 : w3.heap.size < w6.heap.size := Nat.lt_of_lt_of_le hsW (by have := hgrow.size; simp at this; omega)
                have BW6 := hid (BW.out.trans (Below.grown (Below.alloc (Below.refl _ _) (by omega) _) hgrow (by simp; omega) (fun k hk => by have := (World.ownsRow.lt OW.out k hk).1; omega)))
                obtain ⟨p6, n6, c6, hv6⟩ := HO6.out.slice
                subst hv6
                clear hown hgrow hnil hSo Q0 Q1 Q2
                go_wp2_with fail
                go_roundw
                case rel => exact ⟨k + 1, true, acc ++ [(t, 0)], _, by have := HLT.out; omega, rfl, by go_num, HS2.out, by simp; omega, ownsRow_setCell_below HO6.out (by simp) _, Below.setCell BW6.out (by simp) _, by simpa [World.setCell] using hs6, (World.cell?_setCell_other _ _ _ _ (by simp)).trans R0, World.cell?_setCell_same _ _ _ R1, (World.frozen?_setCell ..).trans R2⟩
                case measure => have := HLT.out; simp [intOf]; omega
              | true =>
                have HS2 := hid (Sinv.on HED.out hS.out HEk.out t0 ts hpt)
                clear hpt
                go_wp2_with fail
                refine (TabC.btw_yes _ _ _ _ t0 t1).mono ?_
                rintro e w' ⟨rfl, rfl⟩
                go_wp2_with fail
                refine (hin.out t0 ts).mono ?_
                rintro e w5 ⟨rfl, b5⟩
                have OW := hid (HO.out.below b5 (Nat.le_refl _))
                have BW := hid (HB.out.trans (b5.mono (by omega)))
                have hsW : w3.heap.size < w5.heap.size := Nat.lt_of_lt_of_le hs3 b5.size
                have Q0 : w5.cell? ⟨w3.heap.size, 0, none⟩ = some (.int .i64 size) := (b5.cell hs3).trans q0
                have Q1 : w5.cell? ⟨w3.heap.size, 1, none⟩ = some (.slice pv nv cv) := (b5.cell hs3).trans q1
                have Q2 : w5.frozen? ⟨w3.heap.size, 1, none⟩ = false := (b5.frozen hs3).trans q2
                clear b5 q0 q1 q2
                go_wp2_with fail
                go_roundw
                case rel => exact ⟨k + 1, true, acc, _, by have := HLT.out; omega, rfl, by go_num, HS2.out, by omega, OW.out, BW.out, hsW, Q0, Q1, Q2⟩
                case measure => have := HLT.out; simp [intOf]; omega
            | false =>
              rw [hpt] at hin
              have hnow : (decide (t < size) && p t) = false := by rw [hpt]; simp
              have HNOW := hid hnow
              clear hnow
              cases on with
              | false =>
                have HS2 := hid (Sinv.stay HED.out hS.out HEk.out t0 t1 HNOW.out)
                clear hpt
                go_wp2_with fail
                refine (TabC.btw_yes _ _ _ _ t0 t1).mono ?_
                rintro e w' ⟨rfl, rfl⟩
                go_wp2_with fail
                refine (hin.out t0 ts).mono ?_
                rintro e w5 ⟨rfl, b5⟩
                have OW := hid (HO.out.below b5 (Nat.le_refl _))
                have BW := hid (HB.out.trans (b5.mono (by omega)))
                have hsW : w3.heap.size < w5.heap.size := Nat.lt_of_lt_of_le hs3 b5.size
                have Q0 : w5.cell? ⟨w3.heap.size, 0, none⟩ = some (.int .i64 size) := (b5.cell hs3).trans q0
                have Q1 : w5.cell? ⟨w3.heap.size, 1, none⟩ = some (.slice pv nv cv) := (b5.cell hs3).trans q1
                have Q2 : w5.frozen? ⟨w3.heap.size, 1, none⟩ = false := (b5.frozen hs3).trans q2
                clear b5 q0 q1 q2
                go_wp2_with fail
                go_roundw
                case rel => exact ⟨k + 1, false, acc, _, by have := HLT.out; omega, rfl, by go_num, HS2.out, by omega, OW.out, BW.out, hsW, Q0, Q1, Q2⟩
                case measure => have := HLT.out; simp [intOf]; omega
              | true =>
                clear hpt
                go_wp2_with fail
                refine (TabC.btw_yes _ _ _ _ t0 t1).mono ?_
                rintro e w' ⟨rfl, rfl⟩
                go_wp2_with fail
                refine (hin.out t0 ts).mono ?_
                rintro e w5 ⟨rfl, b5⟩
                have OW := hid (HO.out.below b5 (Nat.le_refl _))
                have BW := hid (HB.out.trans (b5.mono (by omega)))
                have hsW : w3.heap.size < w5.heap.size := Nat.lt_of_lt_of_le hs3 b5.size
                have Q0 : w5.cell? ⟨w3.heap.size, 0, none⟩ = some (.int .i64 size) := (b5.cell hs3).trans q0
                have Q1 : w5.cell? ⟨w3.heap.size, 1, none⟩ = some (.slice pv nv cv) := (b5.cell hs3).trans q1
                have Q2 : w5.frozen? ⟨w3.heap.size, 1, none⟩ = false := (b5.frozen hs3).trans q2
                clear b5 q0 q1 q2
                obtain ⟨l', f, hacc⟩ := hS.out.form
                subst hacc
                have HS2 := hid (Sinv.end HED.out hS.out HEk.out t0 t1 HNOW.out)
                rcases OW.out.form with ⟨_, e1⟩ | ⟨g6, c6, hv6, hg6, hg7, _⟩
                · simp at e1
                simp only [Value.slice.injEq] at hv6
                obtain ⟨rfl, hnv, rfl⟩ := hv6
                have hln : (l' ++ [(f, 0)]).length = l'.length + 1 := by simp
                have x1 := World.ownsRow.cellAt (by rw [hnv] at OW; exact OW.out) (l'.length * 2 + 1) (by rw [hln]; omega)
                rw [(flat_at (l' ++ [(f, 0)]) l'.length (by rw [hln]; omega)).2] at x1
                have x2 := World.ownsRow.frozenAt (by rw [hnv] at OW; exact OW.out) (l'.length * 2 + 1)
                have x3 : (l' ++ [(f, 0)]).getD l'.length (0, 0) = (f, 0) := by simp [List.getD]
                rw [x3] at x1
                have OS : Hid (Own (w5.setCell ⟨g6, l'.length * 2 + 1, none⟩ (.int .i64 t)) (w3.heap.size + 1) (.slice (some ⟨g6, 0, none⟩) nv cv) (l' ++ [(f, t)])) := by
                  have h0 : Own w5 (w3.heap.size + 1) (.slice (some ⟨g6, 0, none⟩) (l' ++ [(f, 0)]).length cv) (l' ++ [(f, 0)]) := by rw [← hnv]; exact OW.out
                  have h1 := h0.setLast t
                  have h2 : (l' ++ [((f, (0 : Int)).1, t)]).length = nv := by rw [hnv]; simp
                  rw [h2] at h1
                  exact h1
                have hal2 : l'.length + 1 ≤ k := by rw [← hln]; exact hal
                have hnv2 : nv = l'.length + 1 := by rw [hnv, hln]
                have hlb : (l'.length : Int) ≤ 10000000 := by omega
                clear x3 hln hnv
                subst hnv2
                generalize hq : l'.length = q at *
                have Hq := hid hq
                clear hq
                simp only at x1
                go_wp2_with fail
                go_roundw
                case rel => exact ⟨k + 1, false, l' ++ [(f, t)], _, by have := HLT.out; omega, rfl, by go_num, HS2.out, by have := Hq.out; simp; omega, OS.out, Below.setCell BW.out (by simp; omega) _, by simpa [World.setCell] using hsW, (World.cell?_setCell_other _ _ _ _ (by first | (simp; done) | (simp; omega))).trans Q0, (World.cell?_setCell_other _ _ _ _ (by first | (simp; done) | (simp; omega))).trans Q1, (World.frozen?_setCell ..).trans Q2⟩
                case measure => have := HLT.out; simp [intOf]; omega
          · have hnow : (decide (t < size) && p t) = false := by rw [decide_eq_false ts]; rfl
            have HNOW := hid hnow
            clear hnow
            cases on with
            | false =>
              have HS2 := hid (Sinv.stay HED.out hS.out HEk.out t0 t1 HNOW.out)
              go_wp2_with fail
              refine (TabC.btw_yes _ _ _ _ t0 t1).mono ?_
              rintro e w' ⟨rfl, rfl⟩
              go_wp2_with fail
              go_roundw
              case rel => exact ⟨k + 1, false, acc, _, by have := HLT.out; omega, rfl, by go_num, HS2.out, by omega, HO.out, HB.out, hs3, q0, q1, q2⟩
              case measure => have := HLT.out; simp [intOf]; omega
            | true =>
              have OW := hid HO.out
              have BW := hid HB.out
              have hsW := hs3
              have Q0 := q0
              have Q1 := q1
              have Q2 := q2
              go_wp2_with fail
              refine (TabC.btw_yes _ _ _ _ t0 t1).mono ?_
              rintro e w' ⟨rfl, rfl⟩
              obtain ⟨l', f, hacc⟩ := hS.out.form
              subst hacc
              have HS2 := hid (Sinv.end HED.out hS.out HEk.out t0 t1 HNOW.out)
              rcases OW.out.form with ⟨_, e1⟩ | ⟨g6, c6, hv6, hg6, hg7, _⟩
              · simp at e1
              simp only [Value.slice.injEq] at hv6
              obtain ⟨rfl, hnv, rfl⟩ := hv6
              have hln : (l' ++ [(f, 0)]).length = l'.length + 1 := by simp
              have x1 := World.ownsRow.cellAt (by rw [hnv] at OW; exact OW.out) (l'.length * 2 + 1) (by rw [hln]; omega)
              rw [(flat_at (l' ++ [(f, 0)]) l'.length (by rw [hln]; omega)).2] at x1
              have x2 := World.ownsRow.frozenAt (by rw [hnv] at OW; exact OW.out) (l'.length * 2 + 1)
              have x3 : (l' ++ [(f, 0)]).getD l'.length (0, 0) = (f, 0) := by simp [List.getD]
              rw [x3] at x1
              have OS : Hid (Own (w'.setCell ⟨g6, l'.length * 2 + 1, none⟩ (.int .i64 t)) (w3.heap.size + 1) (.slice (some ⟨g6, 0, none⟩) nv cv) (l' ++ [(f, t)])) := by
                have h0 : Own w' (w3.heap.size + 1) (.slice (some ⟨g6, 0, none⟩) (l' ++ [(f, 0)]).length cv) (l' ++ [(f, 0)]) := by rw [← hnv]; exact OW.out
                have h1 := h0.setLast t
                have h2 : (l' ++ [((f, (0 : Int)).1, t)]).length = nv := by rw [hnv]; simp
                rw [h2] at h1
                exact h1
              have hal2 : l'.length + 1 ≤ k := by rw [← hln]; exact hal
              have hnv2 : nv = l'.length + 1 := by rw [hnv, hln]
              have hlb : (l'.length : Int) ≤ 10000000 := by omega
              clear x3 hln hnv
              subst hnv2
              generalize hq : l'.length = q at *
              have Hq := hid hq
              clear hq
              simp only at x1
              go_wp2_with fail
              go_roundw
              case rel => exact ⟨k + 1, false, l' ++ [(f, t)], _, by have := HLT.out; omega, rfl, by go_num, HS2.out, by have := Hq.out; simp; omega, OS.out, Below.setCell BW.out (by simp; omega) _, by simpa [World.setCell] using hsW, (World.cell?_setCell_other _ _ _ _ (by first | (simp; done) | (simp; omega))).trans Q0, (World.cell?_setCell_other _ _ _ _ (by first | (simp; done) | (simp; omega))).trans Q1, (World.frozen?_setCell ..).trans Q2⟩
              case measure => have := HLT.out; simp [intOf]; omega
        · have HS2 := hid (Sinv.skip HED.out hS.out HEk.out hr)
          go_wp2_with fail
          refine (TabC.btw_no _ _ _ _ hr).mono ?_
          rintro e w' ⟨rfl, rfl⟩
          go_wp2_with fail
          go_roundw
          case rel => exact ⟨k + 1, on, acc, _, by have := HLT.out; omega, rfl, by go_num, HS2.out, by omega, HO.out, HB.out, hs3, q0, q1, q2⟩
          case measure => have := HLT.out; simp [intOf]; omega
      · have hkE : k = E.length := by omega
        subst hkE
        obtain ⟨hG, hM⟩ := hS.out.done HED.out
        have HG := hid hG
        have HM := hid hM
        have RB2 := hid (RB.out.step (HB.out.mono hR) (Nat.le_refl _))
        obtain ⟨y1, y2, y3, y4, y5, y6⟩ := RB2.out
        have z0 := RB2.out.s0
        have z1 := RB2.out.s1
        clear hG hM hb ho
        go_wp2_with fail
        refine bodyPost_ret (v := .agg #[.int .i64 size, .slice pv nv cv]) (by simp [results, Try.results42, go_sem, z0, z1]) rfl ⟨⟨_, acc, rfl, Own.base (ownsRow_setCell_below (ownsRow_setCell_below HO.out (by simp; omega) _) (by simp; omega) _) (by omega), HG.out, HM.out⟩, by go_grown⟩
  · clear he
    go_enter Try.func42, Try.ntmps42
    go_wp2_with (at_builtin; refine wpList_append_own _ rfl _ _ 74 rfl (w.heap.size + 1) 3 i0 (.int .i64 0) 1 8 Try.underlying74 Hi.out Hz0.out Hz1.out Hz2.out rfl (by decide) _ 2 [.int .i64 0, .int .i64 size] rfl ?qc0 ⟨gq, 0, none⟩ es.length cq (es.map (Value.int .i64)) ?qcx ?qc1 ?qc2 ?qc3 ?qc4 ?qc5 ?qc6 ?_)
    case qc0 => exact lit2 w _ _ _
    case qcx => rfl
    case qc1 => simp
    case qc2 =>
      intro j u hj
      have h := World.ownsRow.cells HE.out (g := gq) rfl j u hj
      exact Lib.cell?_alloc_some _ (Lib.cell?_alloc_some _ h)
    case qc3 => intro u hu; obtain ⟨x, _, rfl⟩ := List.mem_map.1 hu; rfl
    case qc4 => have := HL.out; unfold maxLen; omega
    case qc5 => have := HL.out; omega
    case qc6 => simp
    intro v1 w1 hown hgrow hnil
    have OWN1 : Hid (OwnI w1 (w.heap.size + 1) v1 ([0, size] ++ es)) := by
      show w1.ownsRow _ _ _ _ _ _
      have e : ([0, size] ++ es).length = 2 + es.length := by simp; omega
      rw [e]
      simpa using hown
    have BE1 : Hid (Below (w.heap.size + 1) (w.alloc (.cells #[.int .i64 0, .slice none 0 0] 30)) w1) := Below.grown (Below.alloc (Below.refl _ _) (by simp) _) hgrow (by simp) (fun k hk => by simp [Value.ownBlock] at hk; omega)
    clear hown hgrow hnil
    generalize [0, size] ++ es = ZZ at *
    obtain ⟨g1, c1, hv1, hg1, hg1s, hc1, _⟩ : ∃ g1 c1, v1 = .slice (some ⟨g1, 0, none⟩) ZZ.length c1 ∧ w.heap.size + 1 ≤ g1 ∧ g1 < w1.heap.size ∧ ZZ.length ≤ c1 ∧ c1 ≤ maxLen := by
      rcases OWN1.out.form with ⟨_, e⟩ | h
      · have := HED.out.zero
        rw [e] at this
        simp [tidy, Lib.compact, Lib.compactUpTo] at this
      · exact h
    subst hv1
    go_wp2_with fail
    refine (sortI_any (w.heap.size + 1) g1 c1 ZZ w1 OWN1.out (by have := BE1.out.size; simpa using this) HZL.out).mono ?_
    rintro e w2 ⟨rfl, ho2, b2⟩
    have hcon := compactI_any (w.heap.size + 1) g1 c1 (ZZ.mergeSort fun x y => decide (x ≤ y)) w2 (by rw [List.length_mergeSort]; exact ho2) (by rw [List.length_mergeSort]; exact HZL.out)
    rw [List.length_mergeSort] at hcon
    change Calls Try.prog 64 _ _ (fun e w' => e = .returned (.slice (some ⟨g1, 0, none⟩) (tidy ZZ).length c1) ∧ OwnI w' (w.heap.size + 1) (.slice (some ⟨g1, 0, none⟩) (tidy ZZ).length c1) (tidy ZZ) ∧ Below (w.heap.size + 1) w2 w') at hcon
    have htl := tidy_len ZZ
    have HTL := hid (Nat.le_trans htl HZL.out)
    generalize tidy ZZ = E at *
    have HCON := hid hcon
    have BE2 := hid (BE1.out.trans b2)
    clear hcon htl ho2 b2
    go_wp2_with fail
    refine HCON.out.mono ?_
    rintro e w3 ⟨rfl, ho3, b3⟩
    have BE3 := hid (BE2.out.trans b3)
    have OE := hid ho3
    have hR : w.heap.size < w3.heap.size := by have := BE3.out.size; simp at this; omega
    have BEW := hid (of_alloc BE3.out)
    have RB := hid ((RBox.alloc0 w).step (BE3.out) (Nat.le_refl _))
    have HEl : Hid (E.length ≤ 10000000) := HTL.out
    clear HCON BE1 BE2 OWN1 b3 ho3
    go_wp2_with fail
    go_loopw [8, 24] (fun v8 v24 wr => ∃ (k : Nat) (on : Bool) (acc : List Sp) (v : Value), k ≤ E.length ∧ v8 = .bool on ∧ v24 = .int .i64 k ∧ Hid (Sinv size p E k acc on) ∧ acc.length ≤ k ∧ Own wr (w3.heap.size + 1) v acc ∧ Below w3.heap.size w3 wr ∧ w3.heap.size < wr.heap.size ∧ wr.cell? ⟨w3.heap.size, 0, none⟩ = some (.int .i64 size) ∧ wr.cell? ⟨w3.heap.size, 1, none⟩ = some v ∧ wr.frozen? ⟨w3.heap.size, 1, none⟩ = false) (fun _ v24 _ => E.length - (intOf v24).toNat)
    case atStart => exact ⟨0, false, [], .slice none 0 0, by omega, rfl, rfl, Sinv.start size p E, by simp, Own.nil _ _, Below.alloc (Below.refl _ _) (Nat.le_refl _) _, by simp, World.cell?_alloc_at _ _ _ _ rfl, World.cell?_alloc_at _ _ _ _ rfl, World.frozen?_alloc_at _ _ _ _ rfl⟩
    case round =>
      obtain ⟨k, on, acc, v, hk, rfl, rfl, hS, hal, ho, hb, hs3, q0, q1, q2⟩ := hrel
      have HO := hid ho
      have HB := hid hb
      obtain ⟨pv, nv, cv, hv⟩ := ho.slice
      subst hv
      have hkb : (k : Int) ≤ 10000000 := by have := HEl.out; omega
      by_cases hlt : k < E.length
      · have d1 := OE.out.below hb (Nat.le_refl _) |>.cell k hlt
        have hEk : E[k]? = some (E.getD k 0) := by simp [hlt, List.getD]
        generalize E.getD k 0 = t at d1 hEk
        have HEk := hid hEk
        have HLT := hid hlt
        have hin := hid (fun (h0 : 0 ≤ t) (h1 : t < size) => HIN.out wr t (bel_of BEW.out hb) h0 h1)
        clear hEk hb
        by_cases hr : 0 ≤ t ∧ t ≤ size
        · obtain ⟨t0, t1⟩ := hr
          by_cases ts : t < size
          · cases hpt : p t with
            | true =>
              rw [hpt] at hin
              cases on with
              | false =>
                go_wp2_with fail
                refine (TabC.btw_yes _ _ _ _ t0 t1).mono ?_
                rintro e w' ⟨rfl, rfl⟩
                go_wp2_with fail
                refine (hin.out t0 ts).mono ?_
                rintro e w5 ⟨rfl, b5⟩
                have OW := hid (HO.out.below b5 (Nat.le_refl _))
                have BW := hid (HB.out.trans (b5.mono (by omega)))
                have hsW : w3.heap.size < w5.heap.size := Nat.lt_of_lt_of_le hs3 b5.size
                have Q0 : w5.cell? ⟨w3.heap.size, 0, none⟩ = some (.int .i64 size) := (b5.cell hs3).trans q0
                have Q1 : w5.cell? ⟨w3.heap.size, 1, none⟩ = some (.slice pv nv cv) := (b5.cell hs3).trans q1
                have Q2 : w5.frozen? ⟨w3.heap.size, 1, none⟩ = false := (b5.frozen hs3).trans q2
                clear b5 q0 q1 q2
                have HS2 := hid (Sinv.begin HED.out hS.out HEk.out t0 ts hpt)
                clear hpt
                go_wp2_with (at_builtin; refine wpList_append_own _ rfl _ _ 28 rfl (w3.heap.size + 1) 53 i1 (.agg #[.int .i64 0, .int .i64 0]) 2 16 Try.underlying28 Ji.out Jz0.out Jz1.out Jz2.out rfl (by decide) _ acc.length (flat acc) rfl ?qc0 ⟨w5.heap.size, 0, none⟩ 1 1 [.int .i64 t, .int .i64 0] ?qcx ?qc1 ?qc2 ?qc3 ?qc4 ?qc5 ?qc6 ?_)
                case qc0 => exact World.ownsRow.alloc OW.out _
                case qcx => rfl
                case qc1 => simp
                case qc2 =>
                  intro j u hj
                  match j, hj with
                  | 0, hj => simp at hj; subst hj; exact World.cell?_alloc_at _ _ _ _ rfl
                  | 1, hj => simp at hj; subst hj; exact World.cell?_alloc_at _ _ _ _ rfl
                  | j + 2, hj => simp at hj
                case qc3 => intro u hu; simp at hu; rcases hu with rfl | rfl <;> rfl
                case qc4 => have := HEl.out; unfold maxLen; omega
                case qc5 => have := HEl.out; omega
                case qc6 => simp; omega
                intro v' w6 hown hgrow hnil
                have HO6 : Hid (Own w6 (w3.heap.size + 1) v' (acc ++ [(t, 0)])) := by
                  show w6.ownsRow _ _ _ _ _ _
                  rw [flat_append, List.length_append]
                  exact hown
                have hSo : some w3.heap.size ≠ (Value.slice pv nv cv).ownBlock := by
                  intro h
                  have := (World.ownsRow.lt OW.out _ h.symm).1
                  omega
                have R0 : w6.cell? ⟨w3.heap.size, 0, none⟩ = some (.int .i64 size) := hgrow.cell (Lib.cell?_alloc_some _ Q0) (by simpa using hSo)
                have R1 : w6.cell? ⟨w3.heap.size, 1, none⟩ = some (.slice pv nv cv) := hgrow.cell (Lib.cell?_alloc_some _ Q1) (by simpa using hSo)
                have R2 : w6.frozen? ⟨w3.heap.size, 1, none⟩ = false := (hgrow.frozen_far ⟨w3.heap.size, 1, none⟩ (by simp; omega) (by simpa using hSo)).trans ((World.frozen?_alloc_past _ _ _ hsW).trans Q2)
                have hs6 : w3.heap.size < w6.heap.size := Nat.lt_of_lt_of_le hsW (by have := hgrow.size; simp at this; omega)
                have BW6 := hid (BW.out.trans (Below.grown (Below.alloc (Below.refl _ _) (by omega) _) hgrow (by simp; omega) (fun k hk => by have := (World.ownsRow.lt OW.out k hk).1; omega)))
                obtain ⟨p6, n6, c6, hv6⟩ := HO6.out.slice
                subst hv6
                clear hown hgrow hnil hSo Q0 Q1 Q2
                go_wp2_with fail
                go_roundw
                case rel => exact ⟨k + 1, true, acc ++ [(t, 0)], _, by have := HLT.out; omega, rfl, by go_num, HS2.out, by simp; omega, ownsRow_setCell_below HO6.out (by simp) _, Below.setCell BW6.out (by simp) _, by simpa [World.setCell] using hs6, (World.cell?_setCell_other _ _ _ _ (by simp)).trans R0, World.cell?_setCell_same _ _ _ R1, (World.frozen?_setCell ..).trans R2⟩
                case measure => have := HLT.out; simp [intOf]; omega
              | true =>
                have HS2 := hid (Sinv.on HED.out hS.out HEk.out t0 ts hpt)
                clear hpt
                go_wp2_with fail
                refine (TabC.btw_yes _ _ _ _ t0 t1).mono ?_
                rintro e w' ⟨rfl, rfl⟩
                go_wp2_with fail
                refine (hin.out t0 ts).mono ?_
                rintro e w5 ⟨rfl, b5⟩
                have OW := hid (HO.out.below b5 (Nat.le_refl _))
                have BW := hid (HB.out.trans (b5.mono (by omega)))
                have hsW : w3.heap.size < w5.heap.size := Nat.lt_of_lt_of_le hs3 b5.size
                have Q0 : w5.cell? ⟨w3.heap.size, 0, none⟩ = some (.int .i64 size) := (b5.cell hs3).trans q0
                have Q1 : w5.cell? ⟨w3.heap.size, 1, none⟩ = some (.slice pv nv cv) := (b5.cell hs3).trans q1
                have Q2 : w5.frozen? ⟨w3.heap.size, 1, none⟩ = false := (b5.frozen hs3).trans q2
                clear b5 q0 q1 q2
                go_wp2_with fail
                go_roundw
                case rel => exact ⟨k + 1, true, acc, _, by have := HLT.out; omega, rfl, by go_num, HS2.out, by omega, OW.out, BW.out, hsW, Q0, Q1, Q2⟩
                case measure => have := HLT.out; simp [intOf]; omega
            | false =>
              rw [hpt] at hin
              have hnow : (decide (t < size) && p t) = false := by rw [hpt]; simp
              have HNOW := hid hnow
              clear hnow
              cases on with
              | false =>
                have HS2 := hid (Sinv.stay HED.out hS.out HEk.out t0 t1 HNOW.out)
                clear hpt
                go_wp2_with fail
                refine (TabC.btw_yes _ _ _ _ t0 t1).mono ?_
                rintro e w' ⟨rfl, rfl⟩
                go_wp2_with fail
                refine (hin.out t0 ts).mono ?_
                rintro e w5 ⟨rfl, b5⟩
                have OW := hid (HO.out.below b5 (Nat.le_refl _))
                have BW := hid (HB.out.trans (b5.mono (by omega)))
                have hsW : w3.heap.size < w5.heap.size := Nat.lt_of_lt_of_le hs3 b5.size
                have Q0 : w5.cell? ⟨w3.heap.size, 0, none⟩ = some (.int .i64 size) := (b5.cell hs3).trans q0
                have Q1 : w5.cell? ⟨w3.heap.size, 1, none⟩ = some (.slice pv nv cv) := (b5.cell hs3).trans q1
                have Q2 : w5.frozen? ⟨w3.heap.size, 1, none⟩ = false := (b5.frozen hs3).trans q2
                clear b5 q0 q1 q2
                go_wp2_with fail
                go_roundw
                case rel => exact ⟨k + 1, false, acc, _, by have := HLT.out; omega, rfl, by go_num, HS2.out, by omega, OW.out, BW.out, hsW, Q0, Q1, Q2⟩
                case measure => have := HLT.out; simp [intOf]; omega
              | true =>
                clear hpt
                go_wp2_with fail
                refine (TabC.btw_yes _ _ _ _ t0 t1).mono ?_
                rintro e w' ⟨rfl, rfl⟩
                go_wp2_with fail
                refine (hin.out t0 ts).mono ?_
                rintro e w5 ⟨rfl, b5⟩
                have OW := hid (HO.out.below b5 (Nat.le_refl _))
                have BW := hid (HB.out.trans (b5.mono (by omega)))
                have hsW : w3.heap.size < w5.heap.size := Nat.lt_of_lt_of_le hs3 b5.size
                have Q0 : w5.cell? ⟨w3.heap.size, 0, none⟩ = some (.int .i64 size) := (b5.cell hs3).trans q0
                have Q1 : w5.cell? ⟨w3.heap.size, 1, none⟩ = some (.slice pv nv cv) := (b5.cell hs3).trans q1
                have Q2 : w5.frozen? ⟨w3.heap.size, 1, none⟩ = false := (b5.frozen hs3).trans q2
                clear b5 q0 q1 q2
                obtain ⟨l', f, hacc⟩ := hS.out.form
                subst hacc
                have HS2 := hid (Sinv.end HED.out hS.out HEk.out t0 t1 HNOW.out)
                rcases OW.out.form with ⟨_, e1⟩ | ⟨g6, c6, hv6, hg6, hg7, _⟩
                · simp at e1
                simp only [Value.slice.injEq] at hv6
                obtain ⟨rfl, hnv, rfl⟩ := hv6
                have hln : (l' ++ [(f, 0)]).length = l'.length + 1 := by simp
                have x1 := World.ownsRow.cellAt (by rw [hnv] at OW; exact OW.out) (l'.length * 2 + 1) (by rw [hln]; omega)
                rw [(flat_at (l' ++ [(f, 0)]) l'.length (by rw [hln]; omega)).2] at x1
                have x2 := World.ownsRow.frozenAt (by rw [hnv] at OW; exact OW.out) (l'.length * 2 + 1)
                have x3 : (l' ++ [(f, 0)]).getD l'.length (0, 0) = (f, 0) := by simp [List.getD]
                rw [x3] at x1
                have OS : Hid (Own (w5.setCell ⟨g6, l'.length * 2 + 1, none⟩ (.int .i64 t)) (w3.heap.size + 1) (.slice (some ⟨g6, 0, none⟩) nv cv) (l' ++ [(f, t)])) := by
                  have h0 : Own w5 (w3.heap.size + 1) (.slice (some ⟨g6, 0, none⟩) (l' ++ [(f, 0)]).length cv) (l' ++ [(f, 0)]) := by rw [← hnv]; exact OW.out
                  have h1 := h0.setLast t
                  have h2 : (l' ++ [((f, (0 : Int)).1, t)]).length = nv := by rw [hnv]; simp
                  rw [h2] at h1
                  exact h1
                have hal2 : l'.length + 1 ≤ k := by rw [← hln]; exact hal
                have hnv2 : nv = l'.length + 1 := by rw [hnv, hln]
                have hlb : (l'.length : Int) ≤ 10000000 := by omega
                clear x3 hln hnv
                subst hnv2
                generalize hq : l'.length = q at *
                have Hq := hid hq
                clear hq
                simp only at x1
                go_wp2_with fail
                go_roundw
                case rel => exact ⟨k + 1, false, l' ++ [(f, t)], _, by have := HLT.out; omega, rfl, by go_num, HS2.out, by have := Hq.out; simp; omega, OS.out, Below.setCell BW.out (by simp; omega) _, by simpa [World.setCell] using hsW, (World.cell?_setCell_other _ _ _ _ (by first | (simp; done) | (simp; omega))).trans Q0, (World.cell?_setCell_other _ _ _ _ (by first | (simp; done) | (simp; omega))).trans Q1, (World.frozen?_setCell ..).trans Q2⟩
                case measure => have := HLT.out; simp [intOf]; omega
          · have hnow : (decide (t < size) && p t) = false := by rw [decide_eq_false ts]; rfl
            have HNOW := hid hnow
            clear hnow
            cases on with
            | false =>
              have HS2 := hid (Sinv.stay HED.out hS.out HEk.out t0 t1 HNOW.out)
              go_wp2_with fail
              refine (TabC.btw_yes _ _ _ _ t0 t1).mono ?_
              rintro e w' ⟨rfl, rfl⟩
              go_wp2_with fail
              go_roundw
              case rel => exact ⟨k + 1, false, acc, _, by have := HLT.out; omega, rfl, by go_num, HS2.out, by omega, HO.out, HB.out, hs3, q0, q1, q2⟩
              case measure => have := HLT.out; simp [intOf]; omega
            | true =>
              have OW := hid HO.out
              have BW := hid HB.out
              have hsW := hs3
              have Q0 := q0
              have Q1 := q1
              have Q2 := q2
              go_wp2_with fail
              refine (TabC.btw_yes _ _ _ _ t0 t1).mono ?_
              rintro e w' ⟨rfl, rfl⟩
              obtain ⟨l', f, hacc⟩ := hS.out.form
              subst hacc
              have HS2 := hid (Sinv.end HED.out hS.out HEk.out t0 t1 HNOW.out)
              rcases OW.out.form with ⟨_, e1⟩ | ⟨g6, c6, hv6, hg6, hg7, _⟩
              · simp at e1
              simp only [Value.slice.injEq] at hv6
              obtain ⟨rfl, hnv, rfl⟩ := hv6
              have hln : (l' ++ [(f, 0)]).length = l'.length + 1 := by simp
              have x1 := World.ownsRow.cellAt (by rw [hnv] at OW; exact OW.out) (l'.length * 2 + 1) (by rw [hln]; omega)
              rw [(flat_at (l' ++ [(f, 0)]) l'.length (by rw [hln]; omega)).2] at x1
              have x2 := World.ownsRow.frozenAt (by rw [hnv] at OW; exact OW.out) (l'.length * 2 + 1)
              have x3 : (l' ++ [(f, 0)]).getD l'.length (0, 0) = (f, 0) := by simp [List.getD]
              rw [x3] at x1
              have OS : Hid (Own (w'.setCell ⟨g6, l'.length * 2 + 1, none⟩ (.int .i64 t)) (w3.heap.size + 1) (.slice (some ⟨g6, 0, none⟩) nv cv) (l' ++ [(f, t)])) := by
                have h0 : Own w' (w3.heap.size + 1) (.slice (some ⟨g6, 0, none⟩) (l' ++ [(f, 0)]).length cv) (l' ++ [(f, 0)]) := by rw [← hnv]; exact OW.out
                have h1 := h0.setLast t
                have h2 : (l' ++ [((f, (0 : Int)).1, t)]).length = nv := by rw [hnv]; simp
                rw [h2] at h1
                exact h1
              have hal2 : l'.length + 1 ≤ k := by rw [← hln]; exact hal
              have hnv2 : nv = l'.length + 1 := by rw [hnv, hln]
              have hlb : (l'.length : Int) ≤ 10000000 := by omega
              clear x3 hln hnv
              subst hnv2
              generalize hq : l'.length = q at *
              have Hq := hid hq
              clear hq
              simp only at x1
              go_wp2_with fail
              go_roundw
              case rel => exact ⟨k + 1, false, l' ++ [(f, t)], _, by have := HLT.out; omega, rfl, by go_num, HS2.out, by have := Hq.out; simp; omega, OS.out, Below.setCell BW.out (by simp; omega) _, by simpa [World.setCell] using hsW, (World.cell?_setCell_other _ _ _ _ (by first | (simp; done) | (simp; omega))).trans Q0, (World.cell?_setCell_other _ _ _ _ (by first | (simp; done) | (simp; omega))).trans Q1, (World.frozen?_setCell ..).trans Q2⟩
              case measure => have := HLT.out; simp [intOf]; omega
        · have HS2 := hid (Sinv.skip HED.out hS.out HEk.out hr)
          go_wp2_with fail
          refine (TabC.btw_no _ _ _ _ hr).mono ?_
          rintro e w' ⟨rfl, rfl⟩
          go_wp2_with fail
          go_roundw
          case rel => exact ⟨k + 1, on, acc, _, by have := HLT.out; omega, rfl, by go_num, HS2.out, by omega, HO.out, HB.out, hs3, q0, q1, q2⟩
          case measure => have := HLT.out; simp [intOf]; omega
      · have hkE : k = E.length := by omega
        subst hkE
        obtain ⟨hG, hM⟩ := hS.out.done HED.out
        have HG := hid hG
        have HM := hid hM
        have RB2 := hid (RB.out.step (HB.out.mono hR) (Nat.le_refl _))
        obtain ⟨y1, y2, y3, y4, y5, y6⟩ := RB2.out
        have z0 := RB2.out.s0
        have z1 := RB2.out.s1
        clear hG hM hb ho
        go_wp2_with fail
        refine bodyPost_ret (v := .agg #[.int .i64 size, .slice pv nv cv]) (by simp [results, Try.results42, go_sem, z0, z1]) rfl ⟨⟨_, acc, rfl, Own.base (ownsRow_setCell_below (ownsRow_setCell_below HO.out (by simp; omega) _) (by simp; omega) _) (by omega), HG.out, HM.out⟩, by go_grown⟩
end SpanC
end Go.Proofs.Ytgehdpohiphcpaa
