/- Package lock: Play with an error; Play whole. -/
import Derived.Test.YtllfpbngfkimlaaLkP
import Derived.Test.YtllfpbngfkimlaaLkR
set_option linter.unusedVariables false
namespace Go.Proofs.Ytllfpbngfkimlaa
open Go.RowKit
open Go.Shelf Go.Sort
open SpanM SpanC IntsC
open RowsO hiding Wk
namespace LockC
open LockM
open NumC (Row)
theorem lock_one0 : (#[.slice none 0 0, .slice none 0 0, .int .i64 0] : Array Value).all (·.oneCell') = true := by
  refine all_oneCell_toArray fun v hv => ?_
  simp only [List.mem_cons, List.not_mem_nil, or_false] at hv
  rcases hv with rfl | rfl | rfl <;> rfl
set_option maxRecDepth 20000 in
set_option maxHeartbeats 400000 in
theorem Play_bad (l : List LockM.Wk) (u : Int) (he : plyE l u ≠ 0) (a : Option Addr) (c : Nat) (w : World) (hr : RowsO.Wks w a l) :
    Calls Try.prog 10 #[.slice a l.length c, .int .i64 u] w fun e w' => e = .returned (.tuple #[.agg #[.slice none 0 0, .slice none 0 0, .int .i64 0], .int .i64 (plyE l u)]) ∧ Below w.heap.size w w' := by
  have HC := hid (fun wx (hb : Below w.heap.size w wx) => Check_any l a c wx (hr.below hb (Nat.le_refl _)))
  clear hr
  by_cases hq : wchk l = 0
  · have hu : ¬ (0 ≤ u ∧ u ≤ 20000) := by
      intro h
      apply he
      unfold plyE
      rw [if_neg (by simpa using hq), if_pos h]
    have e1 : plyE l u = 1 := by unfold plyE; rw [if_neg (by simpa using hq), if_neg hu]
    rw [e1]
    rw [hq] at HC
    clear he e1 hq
    go_enter Try.func10, Try.ntmps10
    go_wp2_with (first | (go_at_call 26; refine (HC.out _ (B1.start _ _ _).bel).mono ?_; rintro e w1 ⟨rfl, hb1⟩; have X1 := hid ((B1.start w zL.toArray 25).step hb1); have HBX : Hid (w1.heap[w.heap.size]? = some (.cells zL.toArray 25)) := (X1.out.b.block _ (by omega)).trans (box_new w _ _); clear hb1) | (go_at_call 27; refine (within_no _ _ _ _ hu).mono ?_; rintro e w1 ⟨rfl, rfl⟩) | (refine wpList_store_mid (by rfl) 25 (.tmp 4) (.tmp 17) (by rfl) w.heap.size 0 #[.slice none 0 0, .slice none 0 0, .int .i64 0] (by rfl) (by rfl) (there_box (cs := zL) HBX.out) infoL lock_one0 ?_; obtain ⟨wf, hwf⟩ : ∃ y, y = w1.setCells w.heap.size 0 (#[.slice none 0 0, .slice none 0 0, .int .i64 0] : Array Value).toList := ⟨_, rfl⟩; rw [← hwf]; obtain ⟨t1, t2, t3⟩ := told_fin2 (cs := zL) (Nat.le_refl _) hwf HBX.out rfl X1.out.bel; have HT1 := hid t1; have HT2 := hid t2; clear hwf t1 t2 t3))
    (try simp only [Exit.inBlock, Exit.then])
    have hres : (loadVar 25 ⟨w.heap.size, 0, none⟩).run Try.prog wf = .ok (.agg (zL : List Value).toArray) wf := run_loadVar_mid wf _ 0 _ _ _ (fun j v hv => by rw [Nat.zero_add, HT1.out j]; exact hv) Try.underlying25 (by rfl) infoL
    have hasr : Sem.run Try.prog (asAddr (.pointer (some ⟨w.heap.size, 0, none⟩))) wf = .ok ⟨w.heap.size, 0, none⟩ wf := rfl
    refine bodyPost_ret (by simp [results, Try.results10]; rw [hasr, Result.andThen_ok, hres, Result.andThen_ok]) rfl ?_
    exact ⟨rfl, HT2.out⟩
  · have e1 : plyE l u = wchk l := by unfold plyE; rw [if_pos hq]
    have hne : (wchk l != 0) = true := by simpa using hq
    rw [e1]
    clear he e1 hq
    generalize wchk l = q at *
    go_enter Try.func10, Try.ntmps10
    go_wp2_with (first | (go_at_call 26; refine (HC.out _ (B1.start _ _ _).bel).mono ?_; rintro e w1 ⟨rfl, hb1⟩; have X1 := hid ((B1.start w zL.toArray 25).step hb1); have HBX : Hid (w1.heap[w.heap.size]? = some (.cells zL.toArray 25)) := (X1.out.b.block _ (by omega)).trans (box_new w _ _); clear hb1) | (refine wpList_store_mid (by rfl) 25 (.tmp 4) (.tmp 12) (by rfl) w.heap.size 0 #[.slice none 0 0, .slice none 0 0, .int .i64 0] (by rfl) (by rfl) (there_box (cs := zL) HBX.out) infoL lock_one0 ?_; obtain ⟨wf, hwf⟩ : ∃ y, y = w1.setCells w.heap.size 0 (#[.slice none 0 0, .slice none 0 0, .int .i64 0] : Array Value).toList := ⟨_, rfl⟩; rw [← hwf]; obtain ⟨t1, t2, t3⟩ := told_fin2 (cs := zL) (Nat.le_refl _) hwf HBX.out rfl X1.out.bel; have HT1 := hid t1; have HT2 := hid t2; clear hwf t1 t2 t3))
    (try simp only [Exit.inBlock, Exit.then])
    have hres : (loadVar 25 ⟨w.heap.size, 0, none⟩).run Try.prog wf = .ok (.agg (zL : List Value).toArray) wf := run_loadVar_mid wf _ 0 _ _ _ (fun j v hv => by rw [Nat.zero_add, HT1.out j]; exact hv) Try.underlying25 (by rfl) infoL
    have hasr : Sem.run Try.prog (asAddr (.pointer (some ⟨w.heap.size, 0, none⟩))) wf = .ok ⟨w.heap.size, 0, none⟩ wf := rfl
    refine bodyPost_ret (by simp [results, Try.results10]; rw [hasr, Result.andThen_ok, hres, Result.andThen_ok]) rfl ?_
    exact ⟨rfl, HT2.out⟩
/-- Play, whatever is handed in -/
noncomputable def plyR (l : List LockM.Wk) (u : Int) : List Int := if plyE l u = 0 then ranL (wks l) u.toNat else []
noncomputable def plyN (l : List LockM.Wk) (u : Int) : List Int := if plyE l u = 0 then endL l u.toNat else []
theorem Play_any (l : List LockM.Wk) (u : Int) (a : Option Addr) (c : Nat) (w : World) (hr : RowsO.Wks w a l) :
    Calls Try.prog 10 #[.slice a l.length c, .int .i64 u] w fun e w' => (∃ v1 v2, e = .returned (.tuple #[.agg #[v1, v2, .int .i64 0], .int .i64 (plyE l u)]) ∧ OwnI w' (w.heap.size + 1) v1 (plyR l u) ∧ OwnI w' (w.heap.size + 1) v2 (plyN l u)) ∧ Below w.heap.size w w' := by
  by_cases h : plyE l u = 0
  · obtain ⟨hk, h0, h1⟩ := plyE_ok h
    obtain ⟨n, rfl⟩ : ∃ n : Nat, u = n := ⟨u.toNat, by omega⟩
    refine (Play_ok l hk n (by omega) a c w hr).mono ?_
    rintro e w' ⟨⟨gr, ge, rfl, h2, h3⟩, h4⟩
    refine ⟨⟨_, _, by rw [h], ?_, ?_⟩, h4⟩
    · unfold plyR; rw [if_pos h, Int.toNat_natCast]; exact h2
    · unfold plyN; rw [if_pos h, Int.toNat_natCast]; exact h3
  · refine (Play_bad l u h a c w hr).mono ?_
    rintro e w' ⟨rfl, h4⟩
    refine ⟨⟨_, _, rfl, ?_, ?_⟩, h4⟩
    · unfold plyR; rw [if_neg h]; exact World.ownsRow_nil _ _ _ _
    · unfold plyN; rw [if_neg h]; exact World.ownsRow_nil _ _ _ _
/-- Bound, whatever is handed in -/
def bndV (l : List LockM.Wk) (i : Int) : Int := if bndE l i = 0 then bnd l i.toNat else 0
end LockC
end Go.Proofs.Ytllfpbngfkimlaa
