/- Package lock: ceilingsOf, walked. -/
import Derived.Test.YtllfpbngfkimlaaLkJ
set_option linter.unusedVariables false
namespace Go.Proofs.Ytllfpbngfkimlaa
open Go.RowKit
open Go.Shelf Go.Sort
open SpanM SpanC IntsC
open RowsO hiding Wk
namespace LockC
open LockM
open NumC (Row)
abbrev zero8 : Array Value := #[.int .i64 0, .int .i64 0, .int .i64 0, .int .i64 0, .int .i64 0, .int .i64 0, .int .i64 0, .int .i64 0]
/-- the box of what is told, and that of the ceilings -/
structure CB (w wr : World) (bc : Nat) (cl : List Int) : Prop where
  bel : Below w.heap.size w wr
  res : wr.heap[w.heap.size]? = some (.cells zero8 62)
  box : wr.heap[bc]? = some (.cells (intC cl) 62)
  lt : w.heap.size < bc
  len : cl.length = 8
theorem CB.alloc {w wr : World} {bc : Nat} {cl : List Int} (h : CB w wr bc cl) (o : Obj) : CB w (wr.alloc o) bc cl :=
  ⟨h.bel.alloc h.bel.size o, box_alloc h.res o, box_alloc h.box o, h.lt, h.len⟩
theorem CB.set {w wr : World} {bc : Nat} {cl : List Int} (h : CB w wr bc cl) (n : Nat) (v : Int) : CB w (wr.setCell ⟨bc, n, none⟩ (.int .i64 v)) bc (cl.set n v) := by
  have hlt := h.lt
  refine ⟨h.bel.setCell (by show w.heap.size ≤ bc; omega) _, ?_, ?_, h.lt, by rw [List.length_set]; exact h.len⟩
  · rw [heap_setCell_other _ _ _ _ (by show w.heap.size ≠ bc; omega)]; exact h.res
  · rw [heap_setCell_same _ _ _ _ _ _ h.box, intC_set]
theorem CB.cell {w wr : World} {bc : Nat} {cl : List Int} (h : CB w wr bc cl) {n : Nat} (hn : n < 8) : wr.cell? ⟨bc, n, none⟩ = some (.int .i64 (cl.getD n 0)) := by
  rw [box_cell h.box, intC_at _ (by rw [h.len]; exact hn)]
theorem CB.fro {w wr : World} {bc : Nat} {cl : List Int} (h : CB w wr bc cl) (n : Nat) : wr.frozen? ⟨bc, n, none⟩ = false := PlayFroz h.box n
theorem setCells_heap {b T : Nat} : ∀ (vs : List Value) (o : Nat) (w : World) (cs : List Value), w.heap[b]? = some (.cells cs.toArray T) →
    (w.setCells b o vs).heap[b]? = some (.cells (RowG.putL cs o vs).toArray T) ∧ ∀ k, k ≠ b → (w.setCells b o vs).heap[k]? = w.heap[k]?
  | [], o, w, cs, h => ⟨h, fun _ _ => rfl⟩
  | v :: r, o, w, cs, h => by
    have h1 : (w.setCell ⟨b, o, none⟩ v).heap[b]? = some (.cells (cs.set o v).toArray T) := by
      rw [heap_setCell_same _ _ _ _ _ _ h, List.setIfInBounds_toArray]
    obtain ⟨h2, h3⟩ := setCells_heap r (o + 1) _ _ h1
    exact ⟨h2, fun k hk => (h3 k hk).trans (heap_setCell_other _ _ _ _ hk)⟩
theorem setCells_below {B b : Nat} (hB : B ≤ b) : ∀ (vs : List Value) (o : Nat) {w wr : World}, Below B w wr → Below B w (wr.setCells b o vs)
  | [], _, _, _, h => h
  | v :: r, o, _, _, h => setCells_below hB r (o + 1) (h.setCell (p := ⟨b, o, none⟩) hB v)
/-- what is told, put into its box -/
theorem told_fin {w wr wf : World} {T : Nat} {cs vs : List Value} (hwf : wf = wr.setCells w.heap.size 0 vs) (res : wr.heap[w.heap.size]? = some (.cells cs.toArray T)) (hl : cs.length = vs.length) (hb : Below w.heap.size w wr) :
    (∀ n, wf.cell? ⟨w.heap.size, n, none⟩ = vs[n]?) ∧ Below w.heap.size w wf ∧ ∀ k, k ≠ w.heap.size → wf.heap[k]? = wr.heap[k]? := by
  obtain ⟨h1, h2⟩ := setCells_heap vs 0 wr cs res
  have e : RowG.putL cs 0 vs = vs := by
    have := RowG.putL_eq vs [] cs [] hl
    simpa using this
  rw [e, ← hwf] at h1
  rw [← hwf] at h2
  exact ⟨fun n => by rw [box_cell h1]; simp, by rw [hwf]; exact setCells_below (Nat.le_refl _) vs 0 hb, h2⟩
set_option maxRecDepth 20000 in
set_option maxHeartbeats 400000 in
theorem ceilingsOf_any (l : List LockM.Wk) (hk : Oks l) (a : Option Addr) (c : Nat) (w : World) (hr : RowsO.Wks w a l) :
    Calls Try.prog 29 #[.slice a l.length c] w fun e w' => e = .returned (.agg (intC (ceils l))) ∧ Below w.heap.size w w' := by
  have HK := hid hk
  have HR := hid hr
  have hl8 := hk.1
  have HU := hid (fun w => unowned_any w)
  clear hk hr
  go_enter Try.func29, Try.ntmps29
  go_wp2_with (first | (go_at_call 47; refine (HU.out _).mono ?_; rintro e w1 ⟨rfl, hb1⟩; have HB1 := hid hb1; clear hb1))
  obtain ⟨w2, hw2⟩ : ∃ y, y = w1.alloc (.cells neg8 62) := ⟨_, rfl⟩
  rw [← hw2]
  obtain ⟨bc, hbc⟩ : ∃ y, y = w1.heap.size := ⟨_, rfl⟩
  simp only [← hbc]
  have hCB : CB w w2 bc (ceils (l.take 0)) := by
    have s1 := HB1.out.size
    rw [World.size_alloc] at s1
    rw [cK_zero, hw2, hbc]
    refine ⟨?_, box_alloc ?_ _, box_new w1 _ _, by omega, rfl⟩
    · exact (((Below.refl _ w).alloc (Nat.le_refl _) _).trans (HB1.out.mono (by rw [World.size_alloc]; omega))).alloc (by omega) _
    · exact box_below (box_new w _ _) HB1.out (Nat.le_refl _)
  have HCB := hid hCB
  clear hCB hbc hw2
  go_loopw [11] (fun v11 wr => ∃ k : Nat, k ≤ l.length ∧ v11 = .int .i64 k ∧ Hid (CB w wr bc (ceils (l.take k)))) (fun v11 _ => l.length - (intOf v11).toNat)
  case atStart => exact ⟨0, by omega, rfl, HCB.out⟩
  case round =>
    obtain ⟨k, hkl, rfl, hcb⟩ := hrel
    by_cases hlt : k < l.length
    · obtain ⟨b, off, rfl, hbw, d1', a1, c1, d2', d3, d4⟩ := HR.out.at k hlt
      have d1 := (hcb.out.bel.cell (by simpa using hbw)).trans d1'
      have d2 := (hcb.out.bel.cell (by simpa using hbw)).trans d2'
      clear d1' d2'
      have i1 : (k : Int) < (l.length : Int) := by omega
      have hok := HK.out.at hlt
      have hwk : l.getD k (0, []) = l.getD k zWk := rfl
      rw [hwk] at hok
      have hac : acts l k = (l.getD k zWk).2 := rfl
      have hmany := hok.many
      have HOK := hid hok
      have HD4 := hid d4
      have hst := hid (cK_start l k)
      have hen := hid (cK_end hlt)
      rw [hac] at hen
      generalize hx : l.getD k zWk = x at *
      obtain ⟨cm, la⟩ := x
      simp only at d1 d2 d4 HD4 hmany hen hac
      clear hok hwk d4
      go_wp2_with fail
      obtain ⟨w0, hw0⟩ : ∃ y, y = wr.alloc (.cells #[.int .i64 cm, .slice a1 la.length c1] 70) := ⟨_, rfl⟩
      rw [← hw0]
      have HA0 : Hid (CB w w0 bc (cK l k 0)) := by
        show CB _ _ _ _
        rw [hst.out, hw0]; exact hcb.out.alloc _
      clear hw0 d1 d2 hcb
      go_loopw [19] (fun v19 wr => ∃ j : Nat, j ≤ la.length ∧ v19 = .int .i64 j ∧ Hid (CB w wr bc (cK l k j))) (fun v19 _ => la.length - (intOf v19).toNat)
      case atStart => exact ⟨0, by omega, rfl, HA0.out⟩
      case round =>
        obtain ⟨j, hjl, rfl, hcb2⟩ := hrel
        by_cases hlt2 : j < la.length
        · obtain ⟨b2, off2, rfl, _, e1, e2⟩ := (HD4.out.below hcb2.out.bel (Nat.le_refl _)).at j hlt2
          rw [ac_at hlt2] at e1 e2
          have hkind := kind_of HOK.out.all hlt2
          have i2 : (j : Int) < (la.length : Int) := by omega
          have HOT := hid (cK_other (l := l) (k := k) (j := j) (by rw [hac]; exact hlt2))
          have HST := hid (fun n hn => cK_set (l := l) (k := k) (j := j) (n := n) hlt (by rw [hac]; exact hlt2) hn)
          have hget : (acts l k)[j]'(by rw [hac]; exact hlt2) = la[j] := by simp only [hac]
          simp only [hget] at HOT HST
          clear hget
          generalize la[j] = x at *
          obtain ⟨x1, x2⟩ := x
          simp only at e1 e2 hkind HOT HST
          by_cases hq : x1 = 2
          · obtain ⟨n, rfl⟩ : ∃ n : Nat, x2 = n := ⟨x2.toNat, by omega⟩
            have hn8 : n < 8 := by omega
            have hn8' : (n : Int) < 8 := by omega
            have cN := hcb2.out.cell hn8
            have fN := hcb2.out.fro n
            have hbl : bc < wr.heap.size := (Array.getElem?_eq_some_iff.1 hcb2.out.box).1
            have q1 : (x1 == 2) = true := by simp [hq]
            have hkn : (k : Int) ≤ 8 := by omega
            have hlen2 := hcb2.out.len
            by_cases hz : (cK l k j).getD n 0 = -1
            · have HX : Hid (cK l k (j + 1) = (cK l k j).set n (k : Int)) := HST.out n hn8 (by rw [hq]) hz
              rw [hz] at cN
              clear hz
              go_wp2_with fail
              go_roundw
              case rel =>
                refine ⟨j + 1, by omega, by go_num, ?_⟩
                rw [HX.out]
                first | exact (hcb2.out.set n k).alloc _ | exact (hcb2.out.alloc _).set n k
              case measure => simp [intOf]; omega
            · have q2 : ((cK l k j).getD n 0 == -1) = false := by simpa using hz
              have HX : Hid (cK l k (j + 1) = cK l k j) := HOT.out fun m hm e => by
                simp only [Prod.mk.injEq] at e
                obtain rfl : n = m := by omega
                exact hz
              generalize (cK l k j).getD n 0 = z at *
              clear hz
              go_wp2_with fail
              go_roundw
              case rel =>
                refine ⟨j + 1, by omega, by go_num, ?_⟩
                rw [HX.out]
                exact hcb2.out.alloc _
              case measure => simp [intOf]; omega
          · have q1 : (x1 == 2) = false := by simp [hq]
            have HX : Hid (cK l k (j + 1) = cK l k j) := HOT.out fun m hm e => by
              simp only [Prod.mk.injEq] at e
              exact absurd e.1 hq
            clear hq
            go_wp2_with fail
            go_roundw
            case rel =>
              refine ⟨j + 1, by omega, by go_num, ?_⟩
              rw [HX.out]
              exact hcb2.out.alloc _
            case measure => simp [intOf]; omega
        · obtain rfl : j = la.length := by omega
          go_wp2_with fail
          go_roundw
          case rel =>
            refine ⟨k + 1, by omega, by go_num, ?_⟩
            rw [← hen.out]
            exact hcb2.out
          case measure => simp [intOf]; omega
    · obtain rfl : k = l.length := by omega
      have hcl := hcb
      rw [List.take_length] at hcl
      have hlen := ceils_len l
      obtain ⟨cl, hcl9⟩ : ∃ y, y = ceils l := ⟨_, rfl⟩
      rw [← hcl9] at hcl hlen
      have HC9 := hid hcl9
      clear hcl9
      match cl, hlen, hcl, HC9 with
      | [c0, c1, c2, c3, c4, c5, c6, c7], _, hcl, HC9 =>
        have q0 := hcl.out.cell (n := 0) (by decide)
        have q1 := hcl.out.cell (n := 1) (by decide)
        have q2 := hcl.out.cell (n := 2) (by decide)
        have q3 := hcl.out.cell (n := 3) (by decide)
        have q4 := hcl.out.cell (n := 4) (by decide)
        have q5 := hcl.out.cell (n := 5) (by decide)
        have q6 := hcl.out.cell (n := 6) (by decide)
        have q7 := hcl.out.cell (n := 7) (by decide)
        have r0 := box_cell hcl.out.res 0
        have r1 := box_cell hcl.out.res 1
        have r2 := box_cell hcl.out.res 2
        have r3 := box_cell hcl.out.res 3
        have r4 := box_cell hcl.out.res 4
        have r5 := box_cell hcl.out.res 5
        have r6 := box_cell hcl.out.res 6
        have r7 := box_cell hcl.out.res 7
        have z0 := PlayFroz hcl.out.res 0
        have z1 := PlayFroz hcl.out.res 1
        have z2 := PlayFroz hcl.out.res 2
        have z3 := PlayFroz hcl.out.res 3
        have z4 := PlayFroz hcl.out.res 4
        have z5 := PlayFroz hcl.out.res 5
        have z6 := PlayFroz hcl.out.res 6
        have z7 := PlayFroz hcl.out.res 7
        simp at q0 q1 q2 q3 q4 q5 q6 q7 r0 r1 r2 r3 r4 r5 r6 r7
        clear hcb
        go_wp2_with fail
        obtain ⟨wf, hwf⟩ : ∃ y, y = wr.setCells w.heap.size 0 [.int .i64 c0, .int .i64 c1, .int .i64 c2, .int .i64 c3, .int .i64 c4, .int .i64 c5, .int .i64 c6, .int .i64 c7] := ⟨_, rfl⟩
        obtain ⟨t1, t2, t3⟩ := told_fin hwf hcl.out.res rfl hcl.out.bel
        have hch : ((((((((wr.setCell ⟨w.heap.size, 0, none⟩ (.int .i64 c0)).setCell ⟨w.heap.size, 1, none⟩ (.int .i64 c1)).setCell ⟨w.heap.size, 2, none⟩ (.int .i64 c2)).setCell ⟨w.heap.size, 3, none⟩ (.int .i64 c3)).setCell ⟨w.heap.size, 4, none⟩ (.int .i64 c4)).setCell ⟨w.heap.size, 5, none⟩ (.int .i64 c5)).setCell ⟨w.heap.size, 6, none⟩ (.int .i64 c6)).setCell ⟨w.heap.size, 7, none⟩ (.int .i64 c7)) = wf := hwf.symm
        rw [hch]
        have HT2 := hid t2
        have y0 := t1 0
        have y1 := t1 1
        have y2 := t1 2
        have y3 := t1 3
        have y4 := t1 4
        have y5 := t1 5
        have y6 := t1 6
        have y7 := t1 7
        simp at y0 y1 y2 y3 y4 y5 y6 y7
        clear hch hwf t1 t2 t3 q0 q1 q2 q3 q4 q5 q6 q7 r0 r1 r2 r3 r4 r5 r6 r7 z0 z1 z2 z3 z4 z5 z6 z7
        (try simp only [Exit.inBlock, Exit.then])
        refine bodyPost_ret (by simp [results, Try.results29, go_sem, y0, y1, y2, y3, y4, y5, y6, y7]; try rfl) rfl ?_
        exact ⟨by rw [← HC9.out]; rfl, HT2.out⟩
end LockC
end Go.Proofs.Ytllfpbngfkimlaa
