/- Package lock: play. -/
import Derived.Test.YtllfpbngfkimlaaLkG
import Derived.Deep.CutRange
set_option linter.unusedVariables false
namespace Go.Proofs.Ytllfpbngfkimlaa
open Go.RowKit
open Go.Shelf Go.Sort
open SpanM SpanC IntsC
open RowsO hiding Wk
namespace LockC
open LockM
open NumC (Row)
variable {W : World} {C sb g cap : Nat} {own : List Int} {ws : List Wr} {l : List LockM.Wk} {ran : Nat → Nat}
theorem PlayFroz {w : World} {bx T : Nat} {c : Array Value} (h : w.heap[bx]? = some (.cells c T)) (j : Nat) : w.frozen? ⟨bx, j, none⟩ = false := by
  simp [World.frozen?, h]
theorem St.g_ge (h : St W C sb g cap l own ws ran) (h0 : 0 < l.length) : C ≤ g ∧ g < W.heap.size := by
  have := (h.sit h0).row.lt g rfl
  exact this
/-- the site behind a time that b has run -/
theorem St.went {w7 : World} {own' : List Int} (h : St W C sb g cap l own ws ran) {b j q : Nat} {x : Wr} (hb : b < l.length) (hx : ws[b]? = some x) (sit : Sit w7 C sb g cap (ceils l) own' (ws.set b { x with next := j, ran := q })) (ha : At (acts l b) (ran b + 1) j q) (hp : Pw (l.getD b (0, [])) ws.length b (fun i => hasNow (acts l i) (ran i)) own' j) (hc : Ch sb (some g) W w7) :
    St w7 C sb g cap l own' (ws.set b { x with next := j, ran := q }) (upd ran b) := by
  have hg := h.g_ge (by omega)
  have hlt := h.lt
  have hcs := h.csb
  have hbel := hc.bel hcs hg.1 (by omega)
  have hlen := h.len
  have hc0 := sit.c0
  rw [List.length_set, hlen] at hc0
  refine ⟨⟨_, _, hc0⟩, by rw [List.length_set, hlen], fun _ => sit, fun i hi => ?_, ?_, hcs, sit.sb_lt⟩
  · rw [List.length_set] at hi
    obtain ⟨q1, q2, q3, q4, q5⟩ := h.each i hi
    by_cases e : b = i
    · subst e
      rw [List.getElem_set_self]
      have hx' : ws[b] = x := it_eq hi hx
      rw [hx'] at q1 q2 q3 q4 q5
      exact ⟨q1, q2, q3, q4.next hbel, by rw [upd_self]; exact ha⟩
    · rw [List.getElem_set_ne e]
      exact ⟨q1, q2, q3, q4.next hbel, by rw [upd_other (fun q => e q.symm)]; exact q5⟩
  · unfold Pw at hp
    rw [hlen] at hp
    refine hp.congr fun i hi => ?_
    by_cases e : i = b
    · subst e
      rw [setS_self, upd_self]
      exact ha.now.symm
    · rw [setS_other e, upd_other e]
/-- what run asks, of the one that is chosen -/
theorem St.mine (hk : Oks l) {t b : Nat} (h : St W C sb g cap l own ws (st (wks l) t)) (hw : who (wks l) t = some b) : ∃ (hb : b < ws.length), Mine W C sb g ws b ws[b] (l.getD b (0, [])) (st (wks l) t b) ∧ Pw (l.getD b (0, [])) ws.length b (fun i => hasNow (acts l i) (st (wks l) t i)) own ws[b].next ∧ (∀ k : Int, ((2 : Int), k) ∈ (l.getD b (0, [])).2 → ∀ i, i < ws.length → i ≠ b → k ∉ hasNow (acts l i) (st (wks l) t i)) ∧ (l.getD b (0, [])).2.length ≤ 30 := by
  have hth := who_there hw
  have hbl : b < l.length := hth.1
  have hlen := h.len
  have hb : b < ws.length := by omega
  have he := h.each b hb
  have hg := h.g_ge (by omega)
  have hlt := h.lt
  have hcs := h.csb
  refine ⟨hb, ⟨hb, by rw [List.getElem?_eq_getElem hb], he.num, he.n, hk.at hbl, he.far, he.at_, hth.2.2, h.csb, hg.1, by omega⟩, ?_, fun k hkm i hi hne => hk.free hw (by omega) hne hkm, (hk.at hbl).many⟩
  unfold Pw
  have e1 : (hasAt (l.getD b (0, [])).2 ws[b].next).getD [] = hasNow (acts l b) (st (wks l) t b) := he.at_.now.symm
  rw [e1, hlen]
  have := setS_same (fun i => hasNow (acts l i) (st (wks l) t i)) b
  rw [this]
  exact h.own_
/-- one time more of who is chosen -/
theorem run_st (hk : Oks l) {t b : Nat} (h : St W C sb g cap l own ws (st (wks l) t)) (hw : who (wks l) t = some b) (hb : b < ws.length) :
    Calls Try.prog 49 #[.pointer (some ⟨sb, 0, none⟩), .pointer (some ⟨g, b * 5, none⟩)] W fun e W' => e = .returned (.bool true) ∧ (∃ own' j q, St W' C sb g cap l own' (ws.set b { ws[b] with next := j, ran := q }) (st (wks l) (t + 1))) ∧ Ch sb (some g) W W' := by
  obtain ⟨hb', m0, hp, hf, h30⟩ := h.mine hk hw
  have hbl : b < l.length := (who_there hw).1
  refine Calls.mono (run_any (h.sit (by omega)) C b ws[b] (l.getD b (0, [])) (st (wks l) t b) _ m0 hp hf h30) ?_
  rintro e W' ⟨rfl, own', j, q, s1, s2, s3, s4⟩
  refine ⟨rfl, ⟨own', j, q, ?_⟩, s4⟩
  rw [st_who hw]
  exact h.went hbl m0.it s1 s2 s3 s4
theorem PB.final {wr : World} {gr ge bt nu nl : Nat} {rl el : List Int} (p : PB W wr sb g gr ge bt nu nl rl el) (wf : World) (hwf : wf = ((wr.setCell ⟨W.heap.size, 0, none⟩ (vS gr nu nu)).setCell ⟨W.heap.size, 1, none⟩ (vS ge nl nl)).setCell ⟨W.heap.size, 2, none⟩ (.int .i64 0)) :
    wf.cell? ⟨W.heap.size, 0, none⟩ = some (vS gr nu nu) ∧ wf.cell? ⟨W.heap.size, 1, none⟩ = some (vS ge nl nl) ∧ wf.cell? ⟨W.heap.size, 2, none⟩ = some (.int .i64 0) ∧ OwnI wf W.heap.size (vS gr nu nu) rl ∧ OwnI wf W.heap.size (vS ge nl nl) el ∧ Ch sb (some g) W wf := by
  have h1 := heap_setCell_same _ _ 0 _ _ (vS gr nu nu) p.res
  have h2 := heap_setCell_same _ _ 1 _ _ (vS ge nl nl) h1
  have h3 := heap_setCell_same _ _ 2 _ _ (.int .i64 0) h2
  rw [← hwf] at h3
  have o : ∀ k, k ≠ W.heap.size → wf.heap[k]? = wr.heap[k]? := by
    intro k hk
    rw [hwf, heap_setCell_other _ _ _ _ hk, heap_setCell_other _ _ _ _ hk, heap_setCell_other _ _ _ _ hk]
  have gr1 := OwnI.at_ge p.r
  have ge1 := OwnI.at_ge p.e
  have hs : wf.heap.size = wr.heap.size := by rw [hwf, World.size_setCell, World.size_setCell, World.size_setCell]
  refine ⟨by rw [box_cell h3]; rfl, by rw [box_cell h3]; rfl, by rw [box_cell h3]; rfl, OwnI.base' (own_same p.r (o _ (by omega))) (by omega), OwnI.base' (own_same p.e (o _ (by omega))) (by omega), ?_⟩
  exact ⟨by rw [hwf]; exact p.ch.os, by rw [hwf]; exact p.ch.tape, by rw [hwf]; exact p.ch.output, by rw [hs]; exact p.ch.size, fun k hk k1 k2 => by rw [o k (by omega)]; exact p.ch.block k hk k1 k2⟩
set_option maxRecDepth 20000 in
set_option maxHeartbeats 400000 in
theorem play_any (hk : Oks l) (u : Nat) (hu : u ≤ 20000) (h : St W C sb g cap l own ws (st (wks l) 0)) (hg : g < W.heap.size) :
    Calls Try.prog 30 #[.pointer (some ⟨sb, 0, none⟩), .int .i64 u] W fun e W' => (∃ gr ge, e = .returned (.agg #[vS gr u u, vS ge l.length l.length, .int .i64 0]) ∧ OwnI W' W.heap.size (vS gr u u) (ranL (wks l) u) ∧ OwnI W' W.heap.size (vS ge l.length l.length) (endL l u)) ∧ Ch sb (some g) W W' := by
  have HS := hid h
  have hl8 : l.length ≤ 8 := hk.1
  obtain ⟨a0, c0, hc0⟩ := h.box
  have HK := hid hk
  have hsbl := h.lt
  have hcs := h.csb
  have hmk1 := run_make_row' (P := Try.prog) 23 3 (.int .i64 0) 8 Try.underlying23 infoInt rfl .i64 .i64 u (by omega) (by omega)
  have hmk2 := run_make_row' (P := Try.prog) 23 3 (.int .i64 0) 8 Try.underlying23 infoInt rfl .i64 .i64 l.length (by omega) (by omega)
  have s1 : sb < W.heap.size + 1 := by omega
  have s2 : sb < W.heap.size + 2 := by omega
  have s3 : sb < W.heap.size + 3 := by omega
  have s4 : sb < W.heap.size + 1 + 1 := by omega
  have s5 : sb < W.heap.size + 1 + 1 + 1 := by omega
  clear h hk
  go_enter Try.func30, Try.ntmps30
  go_upto_region 1 with fail
  go_cut [5] from 8 (fun v5 wc => ∃ gr ge bt, v5 = .pointer (some ⟨bt, 0, none⟩) ∧ Hid (PB W wc sb g gr ge bt u l.length (List.replicate u 0) (List.replicate l.length 0)) ∧ Hid (St wc C sb g cap l own ws (st (wks l) 0)))
  case first =>
    go_region
    all_goals (go_wp2_with fail)
    all_goals go_meet
    all_goals first
      | (refine ⟨W.heap.size + 1, W.heap.size + 1 + 1, W.heap.size + 1 + 1 + 1, rfl, PB.start (by go_grown) ?_ ?_ ?_ ?_ (by omega) (by omega) (by omega) (by omega) (by omega) (by omega), HS.out.below (D := W.heap.size) (by go_grown) (Nat.le_refl _)⟩ <;> first | exact (push4 W.heap _ _ _ _).1 | exact (push4 W.heap _ _ _ _).2.1 | exact (push4 W.heap _ _ _ _).2.2.1 | exact (push4 W.heap _ _ _ _).2.2.2)
      | (refine ⟨W.heap.size + 1, W.heap.size + 1 + 1 + 1, W.heap.size + 1 + 1, rfl, PB.start (by go_grown) ?_ ?_ ?_ ?_ (by omega) (by omega) (by omega) (by omega) (by omega) (by omega), HS.out.below (D := W.heap.size) (by go_grown) (Nat.le_refl _)⟩ <;> first | exact (push4 W.heap _ _ _ _).1 | exact (push4 W.heap _ _ _ _).2.1 | exact (push4 W.heap _ _ _ _).2.2.1 | exact (push4 W.heap _ _ _ _).2.2.2)
      | (refine ⟨W.heap.size + 1 + 1, W.heap.size + 1, W.heap.size + 1 + 1 + 1, rfl, PB.start (by go_grown) ?_ ?_ ?_ ?_ (by omega) (by omega) (by omega) (by omega) (by omega) (by omega), HS.out.below (D := W.heap.size) (by go_grown) (Nat.le_refl _)⟩ <;> first | exact (push4 W.heap _ _ _ _).1 | exact (push4 W.heap _ _ _ _).2.1 | exact (push4 W.heap _ _ _ _).2.2.1 | exact (push4 W.heap _ _ _ _).2.2.2)
      | (refine ⟨W.heap.size + 1 + 1, W.heap.size + 1 + 1 + 1, W.heap.size + 1, rfl, PB.start (by go_grown) ?_ ?_ ?_ ?_ (by omega) (by omega) (by omega) (by omega) (by omega) (by omega), HS.out.below (D := W.heap.size) (by go_grown) (Nat.le_refl _)⟩ <;> first | exact (push4 W.heap _ _ _ _).1 | exact (push4 W.heap _ _ _ _).2.1 | exact (push4 W.heap _ _ _ _).2.2.1 | exact (push4 W.heap _ _ _ _).2.2.2)
      | (refine ⟨W.heap.size + 1 + 1 + 1, W.heap.size + 1, W.heap.size + 1 + 1, rfl, PB.start (by go_grown) ?_ ?_ ?_ ?_ (by omega) (by omega) (by omega) (by omega) (by omega) (by omega), HS.out.below (D := W.heap.size) (by go_grown) (Nat.le_refl _)⟩ <;> first | exact (push4 W.heap _ _ _ _).1 | exact (push4 W.heap _ _ _ _).2.1 | exact (push4 W.heap _ _ _ _).2.2.1 | exact (push4 W.heap _ _ _ _).2.2.2)
      | (refine ⟨W.heap.size + 1 + 1 + 1, W.heap.size + 1 + 1, W.heap.size + 1, rfl, PB.start (by go_grown) ?_ ?_ ?_ ?_ (by omega) (by omega) (by omega) (by omega) (by omega) (by omega), HS.out.below (D := W.heap.size) (by go_grown) (Nat.le_refl _)⟩ <;> first | exact (push4 W.heap _ _ _ _).1 | exact (push4 W.heap _ _ _ _).2.1 | exact (push4 W.heap _ _ _ _).2.2.1 | exact (push4 W.heap _ _ _ _).2.2.2)
  case rest =>
    obtain ⟨gr, ge, bt, rfl, hpb, hst⟩ := hcut
    go_wp2_with fail
    go_loopw [18] (fun v18 wr => ∃ (t : Nat) (own : List Int) (ws : List Wr), t ≤ u ∧ v18 = .int .i64 t ∧ Hid (PB W wr sb g gr ge bt u l.length (ranT (wks l) u t) (endL l t)) ∧ Hid (St wr C sb g cap l own ws (st (wks l) t))) (fun v18 _ => u - (intOf v18).toNat)
    case atStart => exact ⟨0, own, ws, by omega, rfl, (by rw [ranT_zero, endL_zero HK.out]; exact hpb.out), hst.out⟩
    case round =>
      obtain ⟨t, own, ws, htu, rfl, hp, hs⟩ := hrel
      have t0 := box_cell hp.out.tb 0
      have t1 := box_cell hp.out.tb 1
      have t2 := box_cell hp.out.tb 2
      simp at t0 t1 t2
      by_cases hlt : t < u
      · have i1 : (t : Int) < (u : Int) := by omega
        have hrl : (ranT (wks l) u t).length = u := ranT_len _ htu
        have hr := OwnI.cell hp.out.r t (by omega)
        have hrf := OwnI.frozen hp.out.r hp.out.lr t
        have hP1 := hid (hp.out.setR t (-1))
        have gr1 := OwnI.at_ge hp.out.r
        have hS1 : Hid (St (wr.setCell ⟨gr, t, none⟩ (.int .i64 (-1))) C sb g cap l own ws (st (wks l) t)) := hs.out.set (by omega) (by omega) (by omega)
        have HCH := hid (choose_any HK.out t (by omega) hS1.out)
        have hwho : pick (wks l) t (st (wks l) t) l.length = who (wks l) t := rfl
        rw [hwho] at HCH
        have HSET := hid (ranT_set (wks l) hlt)
        have HEND := hid (endL_step HK.out t)
        cases hw : who (wks l) t with
        | none =>
          rw [hw] at HCH HEND
          have HW := hid (st_none hw)
          have HWI := hid (whoI_neg.2 hw)
          have HWJ : Hid (whoI (wks l) t = -1) := by
            show _ = _
            unfold whoI; rw [hw]
          go_wp2_with (first | (go_at_call 48; refine Calls.mono HCH.out ?_; rintro e w6 ⟨rfl, hb6⟩; have HB6 := hid hb6; clear hb6; simp only [ptr]))
          go_roundw
          case rel =>
            refine ⟨t + 1, own, ws, by omega, by go_num, ?_, ?_⟩
            · have := hP1.out.other hsbl hg (Ch.of_below HB6.out)
              rw [← HWJ.out, HSET.out] at this
              rw [HEND.out]
              exact this
            · rw [HW.out]
              exact hS1.out.below HB6.out (Nat.le_refl _)
          case measure => simp [intOf]; omega
        | some b =>
          rw [hw] at HCH HEND
          have HW := hid (st_who hw)
          have HWJ : Hid (whoI (wks l) t = (b : Int)) := whoI_eq.2 hw
          have hth := who_there hw
          have hbl : b < l.length := hth.1
          have HWH := hid hw
          have hbw : b < ws.length := by have := hs.out.len; omega
          have HRN := hid (fun w6 (hb6 : Below (wr.setCell ⟨gr, t, none⟩ (.int .i64 (-1))).heap.size (wr.setCell ⟨gr, t, none⟩ (.int .i64 (-1))) w6) => run_st HK.out (hS1.out.below hb6 (Nat.le_refl _)) hw hbw)
          clear hw
          go_wp2_with (first | (go_at_call 48; refine Calls.mono HCH.out ?_; rintro e w6 ⟨rfl, hb6⟩; have HB6 := hid hb6; clear hb6; simp only [ptr]) | (go_at_call 49; refine Calls.mono (HRN.out _ HB6.out) ?_; rintro e w7 ⟨rfl, ⟨own7, j7, q7, hs7⟩, hc7⟩; have HS7 := hid hs7; have HC7 := hid hc7; clear hs7 hc7))
          have hP7 := hid ((hP1.out.other hsbl hg (Ch.of_below HB6.out)).other hsbl hg HC7.out)
          have hb7 : b < (ws.set b { ws[b] with next := j7, ran := q7 }).length := by rw [List.length_set]; exact hbw
          have hit7 := set_it hbw { ws[b] with next := j7, ran := q7 } hb7
          have HE7 := hid (HS7.out.each b hb7)
          rw [hit7] at HE7
          have hw7 := (HS7.out.sit (by omega)).wat hb7
          rw [hit7] at hw7
          have HW7 := hid hw7
          have y2 := hw7.c2
          simp only at y2
          rw [show ws[b].num = b from HE7.out.num] at y2
          have p0 := box_cell hP7.out.tb 0
          have p1 := box_cell hP7.out.tb 1
          have p2 := box_cell hP7.out.tb 2
          simp at p0 p1 p2
          have hrl7 : ((ranT (wks l) u t).set t (-1)).length = u := by rw [List.length_set]; exact hrl
          have hr7 := OwnI.cell hP7.out.r t (by omega)
          have hrf7 := OwnI.frozen hP7.out.r hP7.out.lr t
          clear hw7 hit7 hr hrf t0 t1 t2 hrl
          go_region
          have gr7 := OwnI.at_ge hP7.out.r
          have hP10 : Hid (PB W (w7.setCell ⟨gr, t, none⟩ (.int .i64 b)).drew sb g gr ge bt u l.length (ranT (wks l) u (t + 1)) (endL l t)) := by
            have := (hP7.out.setR t b).other hsbl hg ((Ch.refl sb (some g) _).drewN 1)
            rw [List.set_set, ← HWJ.out, HSET.out] at this
            rw [← HWJ.out]
            exact this
          have hS10 : Hid (St (w7.setCell ⟨gr, t, none⟩ (.int .i64 b)).drew C sb g cap l own7 (ws.set b { ws[b] with next := j7, ran := q7 }) (st (wks l) (t + 1))) :=
            (HS7.out.set (by omega) (by omega) (by omega)).below (Below.drew (Below.refl _ _)) (Nat.le_refl _)
          have hW10 : Hid (WAt (w7.setCell ⟨gr, t, none⟩ (.int .i64 b)).drew g (b * 5) { ws[b] with next := j7, ran := q7 }) := by
            have := (hS10.out.sit (by omega)).wat hb7
            rwa [set_it hbw] at this
          have hEnd : ((st (wks l) t b + 1 = (wks l).T b) ↔ j7 = ws[b].n) := by
            have e1 := HE7.out.at_.isOver
            have e2 := HE7.out.n
            simp only at e1 e2
            rw [e2, e1]
            have e3 := HW.out
            have e4 : st (wks l) (t + 1) b = st (wks l) t b + 1 := by rw [e3, upd_self]
            rw [e4]; rfl
          have hOv := hid (isOver_q _ g (b * 5) _ hW10.out)
          have HX := hid hEnd
          clear hEnd y2 p0 p1 p2 hr7 hrf7
          simp only at hOv
          by_cases hov : j7 = ws[b].n
          · have HY := hid (HX.out.2 hov)
            rw [decide_eq_true hov] at hOv
            clear hov
            go_wp2_with (first | (go_at_call 50; refine Calls.mono hOv.out ?_; rintro e w11 ⟨rfl, m11, hw11⟩; have HW11 := hid hw11; clear hw11))
            have HP11 : Hid (PB W w11 sb g gr ge bt u l.length (ranT (wks l) u (t + 1)) (endL l t)) := by
              show PB _ _ _ _ _ _ _ _ _ _ _
              rw [HW11.out]; exact hP10.out.other hsbl hg ((Ch.refl _ _ _).drewN _)
            have HS11 : Hid (St w11 C sb g cap l own7 (ws.set b { ws[b] with next := j7, ran := q7 }) (st (wks l) (t + 1))) := by
              show St _ _ _ _ _ _ _ _ _
              rw [HW11.out]; exact hS10.out.below (below_drewN (Below.refl _ _) _) (Nat.le_refl _)
            have y2 := ((HS11.out.sit (by omega)).wat hb7).c2
            rw [set_it hbw] at y2
            simp only at y2
            rw [show ws[b].num = b from HE7.out.num] at y2
            have p0 := box_cell HP11.out.tb 0
            have p1 := box_cell HP11.out.tb 1
            have p2 := box_cell HP11.out.tb 2
            simp at p0 p1 p2
            have hel := endL_len l t
            have hr11 := OwnI.cell HP11.out.e b (by omega)
            have hrf11 := OwnI.frozen HP11.out.e HP11.out.le b
            have i2 : (b : Int) < (l.length : Int) := by omega
            have i3 : (b : Int) ≤ 8 := by omega
            clear hel
            go_region
            go_wp2_with fail
            go_roundw
            case rel =>
              have ge7 := OwnI.at_ge HP11.out.e
              have e := HEND.out
              simp only [if_pos HY.out] at e
              refine ⟨t + 1, own7, ws.set b { ws[b] with next := j7, ran := q7 }, by omega, by go_num, ?_, ?_⟩
              · have := (HP11.out.setE b ((t : Int) + 1)).other hsbl hg ((Ch.refl sb (some g) _).drewN 1)
                rw [← e] at this
                exact this
              · exact (HS11.out.set (by omega) (by omega) (by omega)).below (Below.drew (Below.refl _ _)) (Nat.le_refl _)
            case measure => simp [intOf]; omega
          · have HY := hid (fun e => hov (HX.out.1 e))
            rw [decide_eq_false hov] at hOv
            clear hov
            go_wp2_with (first | (go_at_call 50; refine Calls.mono hOv.out ?_; rintro e w11 ⟨rfl, m11, hw11⟩; have HW11 := hid hw11; clear hw11))
            go_roundw
            case rel =>
              have e := HEND.out
              simp only [if_neg HY.out] at e
              refine ⟨t + 1, own7, ws.set b { ws[b] with next := j7, ran := q7 }, by omega, by go_num, ?_, ?_⟩
              · rw [e, HW11.out]
                exact hP10.out.other hsbl hg ((Ch.refl _ _ _).drewN _)
              · rw [HW11.out]
                exact hS10.out.below (below_drewN (Below.refl _ _) _) (Nat.le_refl _)
            case measure => simp [intOf]; omega
      · obtain rfl : t = u := by omega
        have r0 := box_cell hp.out.res 0
        have r1 := box_cell hp.out.res 1
        have r2 := box_cell hp.out.res 2
        simp at r0 r1 r2
        have fz := fun j => PlayFroz hp.out.res j
        have z0 := fz 0
        have z1 := fz 1
        have z2 := fz 2
        clear fz
        have i1 : ¬ (t : Int) < (t : Int) := by omega
        go_wp2_with fail
        obtain ⟨wf, hwf⟩ : ∃ y, y = ((wr.setCell ⟨W.heap.size, 0, none⟩ (vS gr t t)).setCell ⟨W.heap.size, 1, none⟩ (vS ge l.length l.length)).setCell ⟨W.heap.size, 2, none⟩ (.int .i64 0) := ⟨_, rfl⟩
        obtain ⟨q0, q1, q2, q3, q4, q5⟩ := hp.out.final wf hwf
        rw [← hwf]
        clear hwf r0 r1 r2 z0 z1 z2 t0 t1 t2
        (try simp only [Exit.inBlock, Exit.then])
        refine bodyPost_ret (by simp [results, Try.results30, go_sem, q0, q1, q2]; try rfl) rfl ?_
        exact ⟨⟨gr, ge, rfl, by rw [ranT_all] at q3; exact q3, q4⟩, q5⟩
end LockC
end Go.Proofs.Ytllfpbngfkimlaa
