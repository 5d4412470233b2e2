/- Package lock: open. -/
import Derived.Test.YtllfpbngfkimlaaLkN
import Derived.Deep.CutRange
import Derived.Deep.RegionWith
import Derived.Laws.AppendOwn
import Derived.Deep.MidRow
set_option linter.unusedVariables false
namespace Go.Proofs.Ytllfpbngfkimlaa
open Go.RowKit
open Go.Shelf Go.Sort
open SpanM SpanC IntsC
open RowsO hiding Wk
namespace LockC
open LockM
open NumC (Row)
abbrev zW : Value := .agg #[.int .i64 0, .slice none 0 0, .int .i64 0, .int .i64 0, .int .i64 0]
theorem infoW : (Try.prog.info? 97).map (fun i => (i.zero, i.size, i.bytes)) = some (some zW, 5, 56) := by kernel_rfl
theorem infoS : (Try.prog.info? 64).map (·.size) = some 17 := by kernel_rfl
theorem site_one (a : Option Addr) (n c : Nat) (e0 e1 e2 e3 e4 e5 e6 e7 : Int) : (#[.slice a n c, .int .i64 e0, .int .i64 e1, .int .i64 e2, .int .i64 e3, .int .i64 e4, .int .i64 e5, .int .i64 e6, .int .i64 e7, .int .i64 (-1), .int .i64 (-1), .int .i64 (-1), .int .i64 (-1), .int .i64 (-1), .int .i64 (-1), .int .i64 (-1), .int .i64 (-1)] : Array Value).all (·.oneCell') = true := by
  refine all_oneCell_toArray fun v hv => ?_
  simp only [List.mem_cons, List.not_mem_nil, or_false] at hv
  rcases hv with rfl | rfl | rfl | rfl | rfl | rfl | rfl | rfl | rfl | rfl | rfl | rfl | rfl | rfl | rfl | rfl | rfl <;> rfl
theorem row_ne_box {w : World} {B e size n bx T : Nat} {v : Value} {xs : List Value} {cs : Array Value} (h : w.ownsRow B e size v n xs) (hb : w.heap[bx]? = some (.cells cs T)) (hT : T ≠ e) : v.ownBlock ≠ some bx := by
  intro q
  rcases h.2 with ⟨rfl, _⟩ | ⟨g', cap', cur, rfl, _, hg, _⟩
  · simp [Value.ownBlock] at q
  · simp only [Value.ownBlock, Option.some.injEq] at q
    subst q
    rw [hg] at hb
    injection hb with hb
    injection hb with _ h2 _
    exact hT h2.symm
abbrev neg8L : List Int := [-1, -1, -1, -1, -1, -1, -1, -1]
abbrev zS : List Value := [.slice none 0 0, .int .i64 0, .int .i64 0, .int .i64 0, .int .i64 0, .int .i64 0, .int .i64 0, .int .i64 0, .int .i64 0, .int .i64 0, .int .i64 0, .int .i64 0, .int .i64 0, .int .i64 0, .int .i64 0, .int .i64 0, .int .i64 0]
theorem push3 (h : Array Obj) (a b c : Obj) : (((h.push a).push b).push c)[h.size + 1 + 1]? = some c := by
  rw [Array.getElem?_push, if_pos (by simp)]
theorem push3a (h : Array Obj) (a b c : Obj) : (((h.push a).push b).push c)[h.size]? = some a := by
  rw [Array.getElem?_push, if_neg (by simp only [Array.size_push]; omega), Array.getElem?_push, if_neg (by simp only [Array.size_push]; omega), Array.getElem?_push, if_pos rfl]
theorem push2a (h : Array Obj) (a b : Obj) : ((h.push a).push b)[h.size]? = some a := by
  rw [Array.getElem?_push, if_neg (by simp only [Array.size_push]; omega), Array.getElem?_push, if_pos rfl]
theorem push5 (h : Array Obj) (a b c d e : Obj) : (((((h.push a).push b).push c).push d).push e)[h.size + 1]? = some b ∧ (((((h.push a).push b).push c).push d).push e)[h.size + 1 + 1]? = some c ∧ (((((h.push a).push b).push c).push d).push e)[h.size + 1 + 1 + 1 + 1]? = some e := by
  refine ⟨?_, ?_, ?_⟩
  · rw [Array.getElem?_push, if_neg (by simp only [Array.size_push]; omega), Array.getElem?_push, if_neg (by simp only [Array.size_push]; omega), Array.getElem?_push, if_neg (by simp only [Array.size_push]; omega), Array.getElem?_push, if_pos (by simp only [Array.size_push])]
  · rw [Array.getElem?_push, if_neg (by simp only [Array.size_push]; omega), Array.getElem?_push, if_neg (by simp only [Array.size_push]; omega), Array.getElem?_push, if_pos (by simp only [Array.size_push])]
  · rw [Array.getElem?_push, if_pos (by simp only [Array.size_push])]
theorem told_fin2 {w wr wf : World} {b T : Nat} {cs vs : List Value} (hB : w.heap.size ≤ b) (hwf : wf = wr.setCells b 0 vs) (res : wr.heap[b]? = some (.cells cs.toArray T)) (hl : cs.length = vs.length) (hb : Below w.heap.size w wr) :
    (∀ n, wf.cell? ⟨b, n, none⟩ = vs[n]?) ∧ Below w.heap.size w wf ∧ ∀ k, k ≠ b → wf.heap[k]? = wr.heap[k]? := by
  obtain ⟨h1, h2⟩ := setCells_heap vs 0 wr cs res
  have e : RowG.putL cs 0 vs = vs := by
    have := RowG.putL_eq vs [] cs [] hl
    simpa using this
  rw [e, ← hwf] at h1
  rw [← hwf] at h2
  exact ⟨fun n => by rw [box_cell h1]; simp, by rw [hwf]; exact setCells_below hB vs 0 hb, h2⟩
theorem own_heap {W W' : World} {B e size n : Nat} {v : Value} {xs : List Value} (h : W.ownsRow B e size v n xs) (hs : ∀ q, v.ownBlock = some q → W'.heap[q]? = W.heap[q]?) : W'.ownsRow B e size v n xs := by
  refine ⟨h.1, ?_⟩
  rcases h.2 with h0 | ⟨g', cap', cur, h1, h2, h3, h4⟩
  · exact .inl h0
  · exact .inr ⟨g', cap', cur, h1, h2, by rw [hs g' (by rw [h1]; rfl)]; exact h3, h4⟩
theorem own_base {W : World} {B C : Nat} {v : Value} {ws : List Wr} (h : RowG.Own EW 97 W B v ws) (hC : C ≤ B) : RowG.Own EW 97 W C v ws := h.base hC
/-- what open keeps: what is told, the site, its row -/
structure OB (w wr : World) (bs : Nat) (v : Value) (cl : List Int) (ws : List Wr) : Prop where
  bel : Below w.heap.size w wr
  res : wr.heap[w.heap.size + 1]? = some (.cells zS.toArray 64)
  box : wr.heap[bs]? = some (.cells (siteC v cl neg8L) 64)
  row : RowG.Own EW 97 wr (w.heap.size + 2) v ws
  lt : w.heap.size + 1 < bs
/-- a worker that has done nothing -/
structure New (w : World) (l : List LockM.Wk) (i : Nat) (x : Wr) : Prop where
  came : x.came = (l.getD i (0, [])).1
  n : x.n = (acts l i).length
  num : x.num = i
  next : x.next = 0
  ran : x.ran = 0
  acs : Acs w x.a (acts l i)
theorem OB.alloc {w wr : World} {bs : Nat} {v : Value} {cl : List Int} {ws : List Wr} (h : OB w wr bs v cl ws) (o : Obj) : OB w (wr.alloc o) bs v cl ws :=
  ⟨h.bel.alloc h.bel.size o, box_alloc h.res o, box_alloc h.box o, World.ownsRow.alloc h.row o, h.lt⟩
theorem OB.put {w wr w8 : World} {bs : Nat} {v v8 : Value} {cl : List Int} {ws ws8 : List Wr} (h : OB w wr bs v cl ws) (ho : RowG.Own EW 97 w8 (w.heap.size + 2) v8 ws8) (hg : wr.grownBy w8 v.ownBlock) : OB w (w8.setCell ⟨bs, 0, none⟩ v8) bs v8 cl ws8 := by
  have hge : ∀ q, v.ownBlock = some q → w.heap.size + 2 ≤ q := fun q hq => (h.row.lt q hq).1
  have hlt := h.lt
  have b8 : w8.heap[bs]? = some (.cells (siteC v cl neg8L) 64) := by
    rw [hg.block _ (Array.getElem?_eq_some_iff.1 h.box).1 (fun e => row_ne_box h.row h.box (by decide) e.symm)]; exact h.box
  have r8 : w8.heap[w.heap.size + 1]? = some (.cells zS.toArray 64) := by
    rw [hg.block _ (Array.getElem?_eq_some_iff.1 h.res).1 (fun e => row_ne_box h.row h.res (by decide) e.symm)]; exact h.res
  have n8 := row_ne_box ho b8 (by decide)
  refine ⟨(h.bel.grown hg h.bel.size (fun q hq => by have := hge q hq; omega)).setCell (p := ⟨bs, 0, none⟩) (by show w.heap.size ≤ bs; omega) _, ?_, ?_, ownsRow_setCell_other ho n8 _, h.lt⟩
  · rw [heap_setCell_other _ _ _ _ (by show w.heap.size + 1 ≠ bs; omega)]; exact r8
  · rw [heap_setCell_same _ _ _ _ _ _ b8]
    simp [siteC, List.setIfInBounds_toArray]
theorem OB.start {w w1 : World} {bs : Nat} {cl : List Int} (h1 : Below w.heap.size w w1) (h2 : w1.heap[w.heap.size + 1]? = some (.cells zS.toArray 64)) (h3 : w1.heap[bs]? = some (.cells (siteC (.slice none 0 0) cl neg8L) 64)) (h4 : w.heap.size + 1 < bs) : OB w w1 bs (.slice none 0 0) cl [] :=
  ⟨h1, h2, h3, RowG.Own.nil _ _ _ _, h4⟩
set_option maxRecDepth 20000 in
set_option maxHeartbeats 4000000 in
theorem open_any (l : List LockM.Wk) (hl : l.length ≤ 8) (a : Option Addr) (c : Nat) (w : World) (hr : RowsO.Wks w a l) (cl : List Int) (hcl : cl.length = 8) :
    Calls Try.prog 28 #[.slice a l.length c, .agg (intC cl)] w fun e w' => (∃ v ws, e = .returned (.agg (siteC v cl neg8L)) ∧ RowG.Own EW 97 w' w.heap.size v ws ∧ ws.length = l.length ∧ ∀ i (h : i < ws.length), New w l i ws[i]) ∧ Below w.heap.size w w' := by
  obtain ⟨i0, hi, hz0, hz1, hz2⟩ := info_parts infoW
  have Hi := hid hi
  have Hz0 := hid hz0
  have Hz1 := hid hz1
  have Hz2 := hid hz2
  clear hi hz0 hz1 hz2
  have HR := hid hr
  have HU := hid (fun w => unowned_eq w)
  clear hr
  match cl, hcl with
  | [e0, e1, e2, e3, e4, e5, e6, e7], _ =>
    have hic : intC [e0, e1, e2, e3, e4, e5, e6, e7] = #[.int .i64 e0, .int .i64 e1, .int .i64 e2, .int .i64 e3, .int .i64 e4, .int .i64 e5, .int .i64 e6, .int .i64 e7] := rfl
    rw [hic]
    clear hic
    go_enter Try.func28, Try.ntmps28
    go_upto_region 1 with fail
    go_cut [5] from 8 (fun v5 wc => ∃ bs, v5 = .pointer (some ⟨bs, 0, none⟩) ∧ Hid (OB w wc bs (.slice none 0 0) [e0, e1, e2, e3, e4, e5, e6, e7] []))
    case first =>
      go_region_with (go_at_call 47; refine (HU.out _).mono ?_; rintro e w1 ⟨rfl, rfl⟩)
      all_goals (go_wp2_with fail)
      all_goals go_meet
      all_goals first
        | exact ⟨_, rfl, OB.start (by go_grown) (push5 w.heap _ _ _ _ _).1 (push5 w.heap _ _ _ _ _).2.1 (by omega)⟩
        | exact ⟨_, rfl, OB.start (by go_grown) (push5 w.heap _ _ _ _ _).1 (push5 w.heap _ _ _ _ _).2.2 (by omega)⟩
    case rest =>
      obtain ⟨bs, rfl, hob⟩ := hcut
      go_wp2_with fail
      go_loopw [13] (fun v13 wr => ∃ (k : Nat) (v : Value) (ws : List Wr), k ≤ l.length ∧ v13 = .int .i64 k ∧ ws.length = k ∧ Hid (OB w wr bs v [e0, e1, e2, e3, e4, e5, e6, e7] ws) ∧ Hid (∀ i (h : i < ws.length), New w l i ws[i])) (fun v13 _ => l.length - (intOf v13).toNat)
      case atStart => exact ⟨0, .slice none 0 0, [], by omega, rfl, rfl, hob.out, fun i h => by simp at h⟩
      case round =>
        obtain ⟨k, v, ws, hkl, rfl, hwl, hob2, hnew⟩ := hrel
        have s0 : wr.cell? ⟨bs, 0, none⟩ = some v := box_cell hob2.out.box 0
        have z0 := PlayFroz hob2.out.box 0
        obtain ⟨a3, c3, hv⟩ := hob2.out.row.slice
        by_cases hlt : k < l.length
        · obtain ⟨b, off, rfl, hbw, d1', a1, c1, d2', d3, d4⟩ := HR.out.at k hlt
          have d1 := (hob2.out.bel.cell (by simpa using hbw)).trans d1'
          have d2 := (hob2.out.bel.cell (by simpa using hbw)).trans d2'
          have hz : l.getD k zWk = l.getD k (0, []) := rfl
          have hac : acts l k = (l.getD k (0, [])).2 := rfl
          have i1 : (k : Int) < (l.length : Int) := by omega
          have HD4 := hid d4
          have HNW : Hid (New w l k ⟨(l.getD k (0, [])).1, a1, (acts l k).length, c1, k, 0, 0⟩) := ⟨rfl, rfl, rfl, rfl, rfl, by rw [hac, ← hz]; exact d4⟩
          rw [hz] at d1 d2
          rw [← hac] at d2
          generalize (l.getD k (0, [])).1 = cm at *
          generalize hna : (acts l k).length = na at *
          have hbl := (Array.getElem?_eq_some_iff.1 hob2.out.box).1
          have HO2 := hid ((hob2.out.alloc (.cells #[.int .i64 cm, .slice a1 na c1] 70)).alloc (.cells #[.int .i64 cm, .slice a1 na c1, .int .i64 k, .int .i64 0, .int .i64 0] 97))
          clear d1' d2' d4 hz hac
          subst hv
          have hown7 := HO2.out.row
          unfold RowG.Own at hown7
          rw [hwl] at hown7
          have HRW := hid hown7
          clear hown7
          go_wp2_with (at_builtin; refine wpList_append_own _ rfl _ _ 61 rfl (w.heap.size + 2) 97 i0 zW 5 56 Try.underlying61 Hi.out Hz0.out Hz1.out Hz2.out rfl (by decide) _ _ _ rfl HRW.out ⟨wr.heap.size + 1, 0, none⟩ 1 1 (EW.enc ⟨cm, a1, na, c1, k, 0, 0⟩) rfl ?qc1 ?qc2 ?qc3 ?qc4 ?qc5 ?qc6 ?_)
          case qc1 => rfl
          case qc2 => exact World.news_of_block (by have := heap_alloc_new (wr.alloc (.cells #[.int .i64 cm, .slice a1 na c1] 70)) (.cells #[.int .i64 cm, .slice a1 na c1, .int .i64 k, .int .i64 0, .int .i64 0] 97); rw [World.size_alloc] at this; exact this)
          case qc3 => exact EW.h1 _
          case qc4 => unfold maxLen; omega
          case qc5 => omega
          case qc6 => have := HO2.out.row; rw [World.size_alloc, World.size_alloc]; have := hob2.out.bel.size; have := hob2.out.lt; omega
          intro v8 w8 hown8 hgrow8 hnil8
          have ho8 : RowG.Own EW 97 w8 (w.heap.size + 2) v8 (ws ++ [⟨cm, a1, na, c1, k, 0, 0⟩]) := RowG.own_snoc hown8 rfl (by omega)
          have hkw : Value.slice a3 k c3 = Value.slice a3 ws.length c3 := by rw [hwl]
          rw [hkw] at hgrow8
          have HF9 := hid (OB.put HO2.out ho8 hgrow8)
          have hb8 : w8.heap[bs]? = some (.cells (siteC (.slice a3 ws.length c3) [e0, e1, e2, e3, e4, e5, e6, e7] neg8L) 64) := by
            rw [hgrow8.block _ (Array.getElem?_eq_some_iff.1 HO2.out.box).1 (fun e => row_ne_box HO2.out.row HO2.out.box (by decide) e.symm)]; exact HO2.out.box
          have y0 : w8.cell? ⟨bs, 0, none⟩ = some (.slice a3 ws.length c3) := box_cell hb8 0
          have y1 := PlayFroz hb8 0
          obtain ⟨a9, c9, rfl⟩ := ho8.slice
          have hlen9 : (ws ++ [(⟨cm, a1, na, c1, k, 0, 0⟩ : Wr)]).length = k + 1 := by simp [hwl]
          rw [hlen9] at HF9
          clear hb8 hown8 hgrow8 hnil8 ho8 s0 z0
          go_wp2_with fail
          go_roundw
          case rel =>
            refine ⟨ws.length + 1, _, _, by omega, by go_num, hlen9, HF9.out, ?_⟩
            intro i hi
            rw [List.length_append, List.length_singleton] at hi
            rcases Nat.lt_or_ge i ws.length with q | q
            · rw [List.getElem_append_left q]; exact hnew.out i q
            · have : i = ws.length := by omega
              subst this
              rw [List.getElem_append_right (Nat.le_refl _)]
              simp only [Nat.sub_self, List.getElem_cons_zero]
              exact HNW.out
          case measure => simp [intOf]; omega
        · obtain rfl : k = l.length := by omega
          subst hv
          clear s0 z0
          have HTH : Hid (wr.there (w.heap.size + 1) 0 17) := fun j hj => by
            have hj' : j < zS.toArray.size := hj
            rw [Nat.zero_add, box_cell hob2.out.res, Array.getElem?_eq_getElem hj']
            exact ⟨rfl, PlayFroz hob2.out.res j⟩
          have HRG : Hid (wr.rangeAt bs 0 [.slice a3 l.length c3, .int .i64 e0, .int .i64 e1, .int .i64 e2, .int .i64 e3, .int .i64 e4, .int .i64 e5, .int .i64 e6, .int .i64 e7, .int .i64 (-1), .int .i64 (-1), .int .i64 (-1), .int .i64 (-1), .int .i64 (-1), .int .i64 (-1), .int .i64 (-1), .int .i64 (-1)]) := fun j v hv => by
            rw [Nat.zero_add, box_cell hob2.out.box, ← hv, ← hwl]
            simp [siteC]
          go_wp2_with (first | (refine wpList_load_mid (by rfl) 64 (.tmp 5) (by rfl) bs 0 (by rfl) [.slice a3 l.length c3, .int .i64 e0, .int .i64 e1, .int .i64 e2, .int .i64 e3, .int .i64 e4, .int .i64 e5, .int .i64 e6, .int .i64 e7, .int .i64 (-1), .int .i64 (-1), .int .i64 (-1), .int .i64 (-1), .int .i64 (-1), .int .i64 (-1), .int .i64 (-1), .int .i64 (-1)] _ HRG.out Try.underlying64 (by rfl) infoS ?_) | (refine wpList_store_mid (by rfl) 64 (.tmp 4) (.tmp 27) (by rfl) (w.heap.size + 1) 0 #[.slice a3 l.length c3, .int .i64 e0, .int .i64 e1, .int .i64 e2, .int .i64 e3, .int .i64 e4, .int .i64 e5, .int .i64 e6, .int .i64 e7, .int .i64 (-1), .int .i64 (-1), .int .i64 (-1), .int .i64 (-1), .int .i64 (-1), .int .i64 (-1), .int .i64 (-1), .int .i64 (-1)] (by rfl) (by rfl) HTH.out infoS (site_one a3 l.length c3 e0 e1 e2 e3 e4 e5 e6 e7) ?_; obtain ⟨wf, hwf⟩ : ∃ y, y = wr.setCells (w.heap.size + 1) 0 (#[.slice a3 l.length c3, .int .i64 e0, .int .i64 e1, .int .i64 e2, .int .i64 e3, .int .i64 e4, .int .i64 e5, .int .i64 e6, .int .i64 e7, .int .i64 (-1), .int .i64 (-1), .int .i64 (-1), .int .i64 (-1), .int .i64 (-1), .int .i64 (-1), .int .i64 (-1), .int .i64 (-1)] : Array Value).toList := ⟨_, rfl⟩; rw [← hwf]; obtain ⟨t1, t2, t3⟩ := told_fin2 (Nat.le_succ _) hwf hob2.out.res rfl hob2.out.bel; have HT1 := hid t1; have HT2 := hid t2; have HT3 := hid t3; clear hwf t1 t2 t3))
          (try simp only [Exit.inBlock, Exit.then])
          have hres : (loadVar 64 ⟨w.heap.size + 1, 0, none⟩).run Try.prog wf = .ok (.agg (([.slice a3 l.length c3, .int .i64 e0, .int .i64 e1, .int .i64 e2, .int .i64 e3, .int .i64 e4, .int .i64 e5, .int .i64 e6, .int .i64 e7, .int .i64 (-1), .int .i64 (-1), .int .i64 (-1), .int .i64 (-1), .int .i64 (-1), .int .i64 (-1), .int .i64 (-1), .int .i64 (-1)] : List Value)).toArray) wf := run_loadVar_mid wf _ 0 _ _ _ (fun j v hv => by rw [Nat.zero_add, HT1.out j]; exact hv) Try.underlying64 (by rfl) infoS
          refine bodyPost_ret (by simp [results, Try.results28]; exact hres) rfl ?_
          have hfin : RowG.Own EW 97 wf w.heap.size (.slice a3 l.length c3) ws := by
            rw [← hwl]
            exact own_base (own_heap hob2.out.row (fun u hu => HT3.out u (by have := (hob2.out.row.lt u hu).1; omega))) (by omega)
          first
            | exact ⟨⟨.slice a3 l.length c3, rfl, ws, hfin, hwl, hnew.out⟩, HT2.out⟩
            | exact ⟨⟨.slice a3 l.length c3, ws, rfl, hfin, hwl, hnew.out⟩, HT2.out⟩
end LockC
end Go.Proofs.Ytllfpbngfkimlaa
