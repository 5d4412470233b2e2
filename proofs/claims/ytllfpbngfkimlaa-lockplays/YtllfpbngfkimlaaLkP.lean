/- Package lock: Play, Ceilings. -/
import Derived.Test.YtllfpbngfkimlaaLkO
set_option linter.unusedVariables false
namespace Go.Proofs.Ytllfpbngfkimlaa
open Go.RowKit
open Go.Shelf Go.Sort
open SpanM SpanC IntsC
open RowsO hiding Wk
namespace LockC
open LockM
open NumC (Row)
/-- what Play answers: its error -/
def plyE (l : List LockM.Wk) (u : Int) : Int := if wchk l ≠ 0 then wchk l else if 0 ≤ u ∧ u ≤ 20000 then 0 else 1
theorem plyE_ok {l : List LockM.Wk} {u : Int} (h : plyE l u = 0) : Oks l ∧ 0 ≤ u ∧ u ≤ 20000 := by
  unfold plyE at h
  split at h
  · rename_i h1; exact absurd h h1
  · rename_i h1
    split at h
    · rename_i h2; exact ⟨wchk_zero (by simpa using h1), h2⟩
    · cases h
/-- a site as it begins -/
theorem St.begin {w W : World} {l : List LockM.Wk} (hk : Oks l) {sb : Nat} {v : Value} {ws : List Wr} (hb : Below w.heap.size w W) (hsb : w.heap.size ≤ sb) (hbox : W.heap[sb]? = some (.cells (siteC v (ceils l) neg8L) 64)) (hrow : RowG.Own EW 97 W w.heap.size v ws) (hlen : ws.length = l.length) (hn : ∀ i (h : i < ws.length), New w l i ws[i]) :
    ∃ g cap, g < W.heap.size ∧ w.heap.size ≤ g ∧ St W w.heap.size sb g cap l neg8L ws (st (wks l) 0) := by
  have each : ∀ i (h : i < ws.length), Each w.heap.size W l (st (wks l) 0) i ws[i] := fun i h => by
    obtain ⟨h1, h2, h3, h4, h5, h6⟩ := hn i h
    refine ⟨h3, h1, h2, ⟨w, rfl, h6, hb⟩, ?_⟩
    rw [h4, h5]
    exact At.zero (hk.at (by omega))
  have own0 : Ow l.length (fun i => hasNow (acts l i) (st (wks l) 0 i)) neg8L := Ow.start l.length fun i hi => rfl
  have hlt : sb < W.heap.size := (Array.getElem?_eq_some_iff.1 hbox).1
  have hc0 : W.cell? ⟨sb, 0, none⟩ = some v := by rw [box_cell hbox]; rfl
  rcases hrow.form with ⟨rfl, rfl⟩ | ⟨g, cap, rfl, h1, h2, h3, h4⟩
  · have h0 : l.length = 0 := by rw [← hlen]; rfl
    exact ⟨sb, 0, hlt, hsb, ⟨none, 0, by rw [h0]; exact hc0⟩, hlen, fun h => by omega, each, own0, hsb, hlt⟩
  · exact ⟨g, cap, h2, h1, ⟨_, _, by rw [← hlen]; exact hc0⟩, hlen, fun _ => ⟨hbox, hrow, ceils_len l, rfl⟩, each, own0, hsb, hlt⟩
abbrev zL : List Value := [.slice none 0 0, .slice none 0 0, .int .i64 0]
theorem infoL : (Try.prog.info? 25).map (·.size) = some 3 := by kernel_rfl
theorem siteC_size (v : Value) {cl : List Int} (h : cl.length = 8) : (siteC v cl neg8L).size = 17 := by simp [siteC, h]
theorem siteC_one {v : Value} (hv : v.oneCell' = true) (cl : List Int) : (siteC v cl neg8L).all (·.oneCell') = true := by
  refine all_oneCell_toArray fun u hu => ?_
  rcases List.mem_cons.1 hu with rfl | hu
  · exact hv
  · obtain ⟨y, _, rfl⟩ := List.mem_map.1 hu
    rfl
theorem lock_one (gr ge n1 n2 c1 c2 : Nat) : (#[.slice (some ⟨gr, 0, none⟩) n1 c1, .slice (some ⟨ge, 0, none⟩) n2 c2, .int .i64 0] : Array Value).all (·.oneCell') = true := by
  refine all_oneCell_toArray fun v hv => ?_
  simp only [List.mem_cons, List.not_mem_nil, or_false] at hv
  rcases hv with rfl | rfl | rfl <;> rfl
theorem there_new (w3 : World) : (w3.alloc (.cells zS.toArray 64)).there w3.heap.size 0 17 := fun j hj => by
  have hb := box_new w3 zS.toArray 64
  have hj' : j < zS.toArray.size := hj
  rw [Nat.zero_add, box_cell hb, Array.getElem?_eq_getElem hj']
  exact ⟨rfl, PlayFroz hb j⟩
theorem there_box {w : World} {b T : Nat} {cs : List Value} (hb : w.heap[b]? = some (.cells cs.toArray T)) : w.there b 0 cs.length := fun j hj => by
  have hj' : j < cs.toArray.size := by simpa using hj
  rw [Nat.zero_add, box_cell hb, Array.getElem?_eq_getElem hj']
  exact ⟨rfl, PlayFroz hb j⟩
/-- a site, put into a new box -/
theorem site_new (w3 : World) (v : Value) {cl : List Int} (h : cl.length = 8) : ((w3.alloc (.cells zS.toArray 64)).setCells w3.heap.size 0 (siteC v cl neg8L).toList).heap[w3.heap.size]? = some (.cells (siteC v cl neg8L) 64) ∧ ∀ k, k < w3.heap.size → ((w3.alloc (.cells zS.toArray 64)).setCells w3.heap.size 0 (siteC v cl neg8L).toList).heap[k]? = w3.heap[k]? := by
  obtain ⟨h1, h2⟩ := setCells_heap (siteC v cl neg8L).toList 0 _ zS (box_new w3 zS.toArray 64)
  have hl : zS.length = (siteC v cl neg8L).toList.length := by simp [siteC, h]
  have e := RowG.putL_eq (siteC v cl neg8L).toList [] zS [] hl
  simp only [List.append_nil, List.nil_append, List.length_nil] at e
  rw [e, Array.toArray_toList] at h1
  refine ⟨h1, fun k hk => ?_⟩
  rw [h2 k (by omega)]
  show (w3.heap.push _)[k]? = _
  rw [Array.getElem?_push, if_neg (by omega)]
set_option maxRecDepth 20000 in
set_option maxHeartbeats 400000 in
theorem Play_ok (l : List LockM.Wk) (hk : Oks l) (u : Nat) (hu : u ≤ 20000) (a : Option Addr) (c : Nat) (w : World) (hr : RowsO.Wks w a l) :
    Calls Try.prog 10 #[.slice a l.length c, .int .i64 u] w fun e w' => (∃ gr ge, e = .returned (.tuple #[.agg #[vS gr u u, vS ge l.length l.length, .int .i64 0], .int .i64 0]) ∧ OwnI w' (w.heap.size + 1) (vS gr u u) (ranL (wks l) u) ∧ OwnI w' (w.heap.size + 1) (vS ge l.length l.length) (endL l u)) ∧ Below w.heap.size w w' := by
  have HK := hid hk
  have HR := hid hr
  have HC := hid (fun wx (hb : Below w.heap.size w wx) => Check_any l a c wx (hr.below hb (Nat.le_refl _)))
  have HCE := hid (fun wx (hb : Below w.heap.size w wx) => ceilingsOf_any l hk a c wx (hr.below hb (Nat.le_refl _)))
  have HOP := hid (fun wx (hb : Below w.heap.size w wx) => open_any l hk.1 a c wx (hr.below hb (Nat.le_refl _)) (ceils l) (ceils_len l))
  rw [wchk_of hk] at HC
  clear hr hk
  go_enter Try.func10, Try.ntmps10
  go_wp2_with (first | (go_at_call 26; refine (HC.out _ (B1.start _ _ _).bel).mono ?_; rintro e w1 ⟨rfl, hb1⟩; have X1 := hid ((B1.start w zL.toArray 25).step hb1); clear hb1) | (go_at_call 27; refine (within_yes _ _ _ _ (by omega)).mono ?_; rintro e wa ⟨rfl, rfl⟩) | (go_at_call 29; refine (HCE.out _ X1.out.bel).mono ?_; rintro e w2 ⟨rfl, hb2⟩; have X2 := hid (X1.out.step hb2); clear hb2) | (go_at_call 28; refine (HOP.out _ X2.out.bel).mono ?_; rintro e w3 ⟨⟨v, ws, rfl, ho3, hl3, hn3⟩, hb3⟩; have HO3 := hid ho3; have HL3 := hid hl3; have HN3 := hid hn3; have HB3 := hid hb3; have X3 := hid (X2.out.step hb3); have hv1 : Hid (v.oneCell' = true) := (by obtain ⟨a9, c9, rfl⟩ := ho3.slice; exact rfl); clear ho3 hl3 hn3 hb3) | (refine wpList_store_mid (by rfl) 64 (.tmp 7) (.tmp 21) (by rfl) w3.heap.size 0 (siteC v (ceils l) neg8L) (by rfl) (by rfl) (by rw [siteC_size v (ceils_len l)]; exact there_new w3) (by rw [siteC_size v (ceils_len l)]; exact infoS) (siteC_one hv1.out _) ?_; obtain ⟨w4, hw4⟩ : ∃ y, y = (w3.alloc (.cells zS.toArray 64)).setCells w3.heap.size 0 (siteC v (ceils l) neg8L).toList := ⟨_, rfl⟩; rw [← hw4]; have HW4 := hid hw4; clear hw4))
  have hq := site_new w3 v (ceils_len l)
  rw [← HW4.out] at hq
  obtain ⟨q1, q2⟩ := hq
  have h34 : Below w3.heap.size w3 w4 := by
    rw [HW4.out]
    exact setCells_below (Nat.le_refl _) _ 0 ((Below.refl _ w3).alloc (Nat.le_refl _) _)
  obtain ⟨g, cap, hg, hcg, hst⟩ := St.begin (w := w2) (W := w4) HK.out (HB3.out.trans (h34.mono HB3.out.size)) HB3.out.size q1 (own_heap HO3.out (fun q hq => q2 q (HO3.out.lt q hq).2)) HL3.out HN3.out
  have HPL := hid (play_any HK.out u hu hst hg)
  have s2 := X2.out.size
  have s3 := HB3.out.size
  have s4 := h34.size
  have HM5 : Hid (∀ w5, Ch w3.heap.size (some g) w4 w5 → w5.heap[w.heap.size]? = some (.cells zL.toArray 25) ∧ Below w.heap.size w w5) := fun w5 hc5 => by
    refine ⟨?_, ?_⟩
    · rw [hc5.block _ (by omega) (by omega) (by simp; omega), q2 _ (by omega), X3.out.b.block _ (by omega)]
      exact box_new w _ _
    · exact (X3.out.bel.trans (h34.mono (by omega))).trans (hc5.bel (by omega) (by omega) (by omega))
  have HS4 : Hid (w.heap.size + 1 ≤ w4.heap.size) := by show _ ≤ _; omega
  clear hst hg hcg q1 q2 h34 s2 s3 s4
  go_wp2_with (first | (go_at_call 30; refine HPL.out.mono ?_; rintro e w5 ⟨⟨gr, ge, rfl, hr5, he5⟩, hc5⟩; have HR5 := hid hr5; have HE5 := hid he5; have HC5 := hid (HM5.out _ hc5); clear hr5 he5 hc5) | (refine wpList_store_mid (by rfl) 25 (.tmp 4) (.tmp 23) (by rfl) w.heap.size 0 #[vS gr u u, vS ge l.length l.length, .int .i64 0] (by rfl) (by rfl) (there_box (cs := zL) HC5.out.1) infoL (lock_one _ _ _ _ _ _) ?_; obtain ⟨wf, hwf⟩ : ∃ y, y = w5.setCells w.heap.size 0 (#[vS gr u u, vS ge l.length l.length, .int .i64 0] : Array Value).toList := ⟨_, rfl⟩; rw [← hwf]; obtain ⟨t1, t2, t3⟩ := told_fin2 (cs := zL) (Nat.le_refl _) hwf HC5.out.1 rfl HC5.out.2; have HT1 := hid t1; have HT2 := hid t2; have HT3 := hid t3; clear hwf t1 t2 t3))
  (try simp only [Exit.inBlock, Exit.then])
  have hres : (loadVar 25 ⟨w.heap.size, 0, none⟩).run Try.prog wf = .ok (.agg (([vS gr u u, vS ge l.length l.length, .int .i64 0] : List Value)).toArray) wf := run_loadVar_mid wf _ 0 _ _ _ (fun j v hv => by rw [Nat.zero_add, HT1.out j]; exact hv) Try.underlying25 (by rfl) infoL
  have hasr : Sem.run Try.prog (asAddr (.pointer (some ⟨w.heap.size, 0, none⟩))) wf = .ok ⟨w.heap.size, 0, none⟩ wf := rfl
  refine bodyPost_ret (by simp [results, Try.results10]; rw [hasr, Result.andThen_ok, hres, Result.andThen_ok]) rfl ?_
  have g1 := OwnI.at_ge HR5.out
  have g2 := OwnI.at_ge HE5.out
  have hs4 := HS4.out
  exact ⟨⟨gr, ge, rfl, OwnI.base' (own_heap HR5.out (fun q hq => HT3.out q (by simp [Value.ownBlock] at hq; omega))) (by omega), OwnI.base' (own_heap HE5.out (fun q hq => HT3.out q (by simp [Value.ownBlock] at hq; omega))) (by omega)⟩, HT2.out⟩
end LockC
end Go.Proofs.Ytllfpbngfkimlaa
