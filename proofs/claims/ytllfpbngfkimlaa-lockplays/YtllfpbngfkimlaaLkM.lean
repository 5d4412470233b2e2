/- Package lock: inForm, walked. -/
import Derived.Test.YtllfpbngfkimlaaLkL
import Derived.BigQuiet
set_option linter.unusedVariables false
namespace Go.Proofs.Ytllfpbngfkimlaa
open Go.RowKit
open Go.Shelf Go.Sort
open SpanM SpanC IntsC
open RowsO hiding Wk
namespace LockC
open LockM
open NumC (Row)
theorem within_yes (x lo hi : Int) (w : World) (h : lo ≤ x ∧ x ≤ hi) :
    Calls Try.prog 27 #[.int .i64 x, .int .i64 lo, .int .i64 hi] w fun e w' => e = .returned (.bool true) ∧ w' = w := by
  have := within_any x lo hi w
  rwa [decide_eq_true h] at this
theorem within_no (x lo hi : Int) (w : World) (h : ¬ (lo ≤ x ∧ x ≤ hi)) :
    Calls Try.prog 27 #[.int .i64 x, .int .i64 lo, .int .i64 hi] w fun e w' => e = .returned (.bool false) ∧ w' = w := by
  have := within_any x lo hi w
  rwa [decide_eq_false h] at this
theorem form_dec {l : List LockM.Ac} {h : List Int} (e : hasAt l l.length = some h) : decide (Form l) = (ranF l && decide (h = [])) := by
  rw [Bool.eq_iff_iff]
  simp [Form, e, and_comm]
/-- what inForm keeps: the box of Booleans, the row of what is taken -/
structure FB (w wr : World) (v : Value) (h : List Int) : Prop where
  bel : Below w.heap.size w wr
  box : wr.heap[w.heap.size]? = some (.cells (hasB h) 112)
  own : OwnI wr (w.heap.size + 1) v h
theorem FB.start (w : World) : FB w (w.alloc (.cells (hasB []) 112)) (.slice none 0 0) [] :=
  ⟨(Below.refl _ w).alloc (Nat.le_refl _) _, box_new w _ _, World.ownsRow_nil _ _ _ _⟩
theorem FB.lt {w wr : World} {v : Value} {h : List Int} (f : FB w wr v h) : w.heap.size < wr.heap.size := (Array.getElem?_eq_some_iff.1 f.box).1
theorem FB.alloc {w wr : World} {v : Value} {h : List Int} (f : FB w wr v h) (o : Obj) : FB w (wr.alloc o) v h :=
  ⟨f.bel.alloc f.bel.size o, box_alloc f.box o, World.ownsRow.alloc f.own o⟩
theorem FB.drewN {w wr : World} {v : Value} {h : List Int} (f : FB w wr v h) (n : Nat) : FB w (wr.drewN n) v h :=
  ⟨below_drewN f.bel n, f.box, f.own.below (below_drewN (Below.refl _ _) n) (Nat.le_refl _)⟩
theorem FB.cell {w wr : World} {v : Value} {h : List Int} (f : FB w wr v h) {k : Nat} (hk : k < 8) : wr.cell? ⟨w.heap.size, k, none⟩ = some (.bool (decide ((k : Int) ∈ h))) := by
  rw [box_cell f.box, hasB_at h hk]
/-- an append, and the box's store behind it -/
theorem FB.put {w wr w8 : World} {v v8 : Value} {h : List Int} {k : Nat} (f : FB w wr v h) (ho : OwnI w8 (w.heap.size + 1) v8 (h ++ [(k : Int)])) (hg : wr.grownBy w8 v.ownBlock) : FB w (w8.setCell ⟨w.heap.size, k, none⟩ (.bool true)) v8 (h ++ [(k : Int)]) := by
  have hge : ∀ q, v.ownBlock = some q → w.heap.size + 1 ≤ q := fun q hq => (World.ownsRow.lt f.own q hq).1
  have hb8 : Below w.heap.size w w8 := f.bel.grown hg f.bel.size (fun q hq => by have := hge q hq; omega)
  have h8 : w8.heap[w.heap.size]? = some (.cells (hasB h) 112) := by
    rw [hg.block _ f.lt (fun e => by have := hge _ e.symm; omega)]; exact f.box
  refine ⟨hb8.setCell (p := ⟨w.heap.size, k, none⟩) (Nat.le_refl _) _, ?_, ?_⟩
  · rw [heap_setCell_same _ _ _ _ _ _ h8, hasB_put]
  · exact ownsRow_setCell_other ho (fun e => by have := (World.ownsRow.lt ho _ e).1; simp only at this; omega) _
theorem owni_take {w : World} {B g n cap m : Nat} {l : List Int} (h : OwnI w B (vS g n cap) l) (hn : n = l.length) (hm : m ≤ n) : OwnI w B (vS g m cap) (l.take m) := by
  subst hn
  have := RowG.own_take h hm
  show w.ownsRow _ _ _ _ _ _
  rw [Nat.mul_one] at this
  rw [List.length_take, Nat.min_eq_left hm, List.map_take]
  exact this
/-- what was taken last is dropped -/
theorem FB.del {w wr : World} {g n cap : Nat} {h : List Int} {k : Nat} (f : FB w wr (vS g (n + 1) cap) h) (hn : n + 1 = h.length) (hl : h.getLast? = some (k : Int)) (hd : h.Nodup) : FB w (wr.setCell ⟨w.heap.size, k, none⟩ (.bool false)) (vS g n cap) h.dropLast := by
  refine ⟨f.bel.setCell (p := ⟨w.heap.size, k, none⟩) (Nat.le_refl _) _, ?_, ?_⟩
  · rw [heap_setCell_same _ _ _ _ _ _ f.box, hasB_del hl hd]
  · have h1 := owni_take f.own hn (show n ≤ n + 1 by omega)
    have e : h.take n = h.dropLast := by rw [List.dropLast_eq_take, ← hn, Nat.add_sub_cancel]
    rw [e] at h1
    exact ownsRow_setCell_other h1 (fun q => by have := (World.ownsRow.lt h1 _ q).1; simp only at this; omega) _
set_option maxRecDepth 20000 in
set_option maxHeartbeats 400000 in
theorem inForm_any (l : List LockM.Ac) (hl : l.length ≤ 30) (a : Option Addr) (c : Nat) (w : World) (hr : Acs w a l) :
    Calls Try.prog 46 #[.slice a l.length c] w fun e w' => e = .returned (.bool (decide (Form l))) ∧ Below w.heap.size w w' := by
  have HR := hid hr
  have HNO := hid (fun j (hj : j < l.length) (h : hasAt l (j + 1) = none) => decide_eq_false (none_after hj h))
  have HYES := hid (fun (h : List Int) (e : hasAt l l.length = some h) => form_dec e)
  have HRN := hid (fun j (hj : j < l.length) => ranF_next hj)
  have HSU := hid (fun j (hj : j < l.length) => hasAt_succ hj)
  have HTK := hid (List.take_of_length_le (Nat.le_refl l.length))
  clear hr
  generalize decide (Form l) = R at *
  go_enter Try.func46, Try.ntmps46
  go_wp2_with fail
  have hF0 := hid (FB.start w)
  rw [hasB_nil] at hF0
  go_loopw [3, 5, 11] (fun v3 v5 v11 wr => ∃ (j : Nat) (h : List Int), j ≤ l.length ∧ v11 = .int .i64 j ∧ Hid (hasAt l j = some h) ∧ v5 = .bool (ranF (l.take j)) ∧ Hid (FB w wr v3 h) ∧ h.length ≤ j) (fun _ _ v11 _ => l.length - (intOf v11).toNat)
  case atStart => exact ⟨0, [], by omega, rfl, hasAt_zero l, rfl, hF0.out, by simp⟩
  case round =>
    obtain ⟨j, h, hj, rfl, hat, rfl, hfb, hhl⟩ := hrel
    obtain ⟨a3, n3, k3, rfl⟩ := OwnI.slice hfb.out.own
    by_cases hlt : j < l.length
    · obtain ⟨b, off, rfl, _, d1, d2⟩ := (HR.out.below hfb.out.bel (Nat.le_refl _)).at j hlt
      rw [ac_at hlt] at d1 d2
      have i1 : (j : Int) < (l.length : Int) := by omega
      have hsu := hid (HSU.out j hlt)
      have hrn := hid (HRN.out j hlt)
      have hno := hid (HNO.out j hlt)
      rw [hat.out] at hsu
      generalize l[j] = x at *
      obtain ⟨x1, x2⟩ := x
      simp only [stp] at d1 d2 hsu hrn
      obtain ⟨a4, k4, e4, hrow, hcap⟩ := owni_row hfb.out.own
      simp only [Value.slice.injEq] at e4
      obtain ⟨rfl, rfl, rfl⟩ := e4
      have hl30 : h.length ≤ 30 := by omega
      by_cases c1 : x1 = 1
      · have q1 : (x1 == 1) = true := by simp [c1]
        have q2 : (x1 == 2) = false := by simp [c1]
        have q3 : (x1 == 3) = false := by simp [c1]
        rw [if_pos c1] at hrn hsu
        by_cases r : 1 ≤ x2 ∧ x2 ≤ 100
        · have HAT : Hid (hasAt l (j + 1) = some h) := by
            have := hsu.out; rw [if_pos r] at this; exact this
          have HRX : Hid (Value.bool true = Value.bool (ranF (l.take (j + 1)))) := by
            show _ = _
            rw [hrn.out]
          clear hsu hrn hno c1
          go_wp2_with (first | (go_at_call 27; refine (within_yes _ _ _ _ (by omega)).mono ?_; rintro e w1 ⟨rfl, rfl⟩))
          go_roundw
          case rel => exact ⟨j + 1, h, by omega, by go_num, HAT.out, HRX.out, hfb.out.alloc _, by omega⟩
          case measure => simp [intOf]; omega
        · have HN := hid (hno.out (by have := hsu.out; rw [if_neg r] at this; exact this))
          clear hsu hrn hno c1
          go_wp2_with (first | (go_at_call 27; refine (within_no _ _ _ _ (by omega)).mono ?_; rintro e w1 ⟨rfl, rfl⟩))
          go_quiet (fail)
          go_wp2_with fail
          go_ret
          exact ⟨by rw [HN.out]; rfl, below_drewN (hfb.out.alloc _).bel _⟩
      · have q1 : (x1 == 1) = false := by simp [c1]
        rw [if_neg c1] at hrn hsu
        by_cases c2 : x1 = 2
        · have q2 : (x1 == 2) = true := by simp [c2]
          have q3 : (x1 == 3) = false := by simp [c2]
          rw [if_pos c2] at hrn hsu
          by_cases r : 0 ≤ x2 ∧ x2 ≤ 7
          · obtain ⟨k, rfl⟩ : ∃ k : Nat, x2 = k := ⟨x2.toNat, by omega⟩
            have hk8 : k < 8 := by omega
            have hk8' : (k : Int) < 8 := by omega
            have cN := hfb.out.cell hk8
            have hblt := hfb.out.lt
            by_cases m : (k : Int) ∈ h
            · have HN := hid (hno.out (by have := hsu.out; rw [if_neg (fun q => q.2.2 m)] at this; exact this))
              rw [decide_eq_true m] at cN
              clear hsu hrn hno c1 c2 m
              go_wp2_with (first | (go_at_call 27; refine (within_yes _ _ _ _ (by omega)).mono ?_; rintro e w1 ⟨rfl, rfl⟩))
              go_quiet (fail)
              go_wp2_with fail
              go_ret
              exact ⟨by rw [HN.out]; rfl, below_drewN (hfb.out.alloc _).bel _⟩
            · have HAT : Hid (hasAt l (j + 1) = some (h ++ [(k : Int)])) := by
                have := hsu.out; rw [if_pos ⟨r.1, r.2, m⟩] at this; exact this
              have HRX : Hid (Value.bool false = Value.bool (ranF (l.take (j + 1)))) := by
                show _ = _
                rw [hrn.out]
              rw [decide_eq_false m] at cN
              clear hsu hrn hno c1 c2 m
              have HF2 := hid ((hfb.out.alloc (.cells #[.int .i64 x1, .int .i64 k] 74)).alloc (.cells #[.int .i64 k] 3))
              go_wp2_with (first | (go_at_call 27; refine (within_yes _ _ _ _ (by omega)).mono ?_; rintro e w1 ⟨rfl, rfl⟩) | (at_builtin; refine wpList_appendI rfl _ _ rfl (w.heap.size + 1) _ h [(k : Int)] ⟨wr.heap.size + 1, 0, none⟩ 1 1 rfl ?qc0 rfl rfl ?qc1 ?qc2 ?qc3 ?_))
              case qc0 => exact HF2.out.own
              case qc1 => exact World.news_of_block (by have := heap_alloc_new (wr.alloc (.cells #[.int .i64 x1, .int .i64 k] 74)) (.cells #[.int .i64 k] 3); rw [World.size_alloc] at this; exact this)
              case qc2 => simp; omega
              case qc3 => rw [World.size_alloc, World.size_alloc]; omega
              intro v8 w8 hown8 hgrow8
              have hbx : w8.heap[wr.heap.size]? = some (.cells #[.int .i64 x1, .int .i64 k] 74) := by
                rw [hgrow8.block _ (by rw [World.size_alloc, World.size_alloc]; omega) (fun e => by have := (World.ownsRow.lt hfb.out.own _ e.symm).2; omega)]
                exact box_alloc (box_new wr _ _) _
              have hbb : w8.heap[w.heap.size]? = some (.cells (hasB h) 112) := by
                rw [hgrow8.block _ HF2.out.lt (fun e => by have := (World.ownsRow.lt hfb.out.own _ e.symm).1; omega)]; exact HF2.out.box
              have y1 := box_cell hbx 1
              have y2 := box_cell hbb k
              rw [hasB_at h hk8] at y2
              have y3 := PlayFroz hbb k
              simp at y1
              obtain ⟨a9, n9, k9, rfl⟩ := OwnI.slice hown8
              have HF9 := hid (FB.put HF2.out hown8 hgrow8)
              generalize decide ((k : Int) ∈ h) = z at y2
              clear hbx hbb hown8 hgrow8 cN
              go_wp2_with fail
              go_roundw
              case rel => exact ⟨j + 1, h ++ [(k : Int)], by omega, by go_num, HAT.out, HRX.out, HF9.out, by simp; omega⟩
              case measure => simp [intOf]; omega
          · have HN := hid (hno.out (by have := hsu.out; rw [if_neg (fun q => r ⟨q.1, q.2.1⟩)] at this; exact this))
            clear hsu hrn hno c1 c2
            go_wp2_with (first | (go_at_call 27; refine (within_no _ _ _ _ (by omega)).mono ?_; rintro e w1 ⟨rfl, rfl⟩))
            go_quiet (fail)
            go_wp2_with fail
            go_ret
            exact ⟨by rw [HN.out]; rfl, below_drewN (hfb.out.alloc _).bel _⟩
        · have q2 : (x1 == 2) = false := by simp [c2]
          rw [if_neg c2] at hrn hsu
          by_cases c3 : x1 = 3
          · have q3 : (x1 == 3) = true := by simp [c3]
            rw [if_pos c3] at hsu
            by_cases he : h = []
            · have HN := hid (hno.out (by have := hsu.out; rw [he, if_neg (by simp)] at this; exact this))
              subst he
              clear hsu hrn hno c1 c2 c3
              go_wp2_with fail
              go_quiet (fail)
              go_wp2_with fail
              go_ret
              exact ⟨by rw [HN.out]; rfl, below_drewN (hfb.out.alloc _).bel _⟩
            · obtain ⟨ys, y, rfl⟩ : ∃ ys y, h = ys ++ [y] := ⟨h.dropLast, h.getLast he, (List.dropLast_concat_getLast he).symm⟩
              have hlen9 : (ys ++ [y]).length = ys.length + 1 := by simp
              obtain ⟨g9, o9, ha9, _, d9⟩ := Row.at hrow ys.length (by omega)
              have hfr9 : o9 = 0 := by
                rcases OwnI.form hfb.out.own with ⟨e, _⟩ | ⟨q, cp, e, _⟩
                · rw [ha9] at e; simp at e
                · rw [ha9] at e; simp at e; exact e.1.2
              subst hfr9
              have hgy : (ys ++ [y]).getD ys.length 0 = y := by simp [List.getD]
              rw [hgy, Nat.zero_add] at d9
              subst ha9
              rw [hlen9] at hfb hcap
              have hgl : (ys ++ [y]).getLast? = some y := by simp
              have i4 : ((ys.length : Int) + 1 - 1) = (ys.length : Int) := by omega
              have i5 : (ys.length : Int) < (ys.length : Int) + 1 := by omega
              have i6 : (ys.length : Int) ≤ (k3 : Int) := by omega
              have i7 : (0 : Int) ≤ (ys.length : Int) := by omega
              have i8 : IntKind.i64.wrap (ys.length : Int) = (ys.length : Int) := by rw [IntKind.wrap_i64]; omega
              have hyl : ys.length ≤ 30 := by omega
              clear hgy hrow
              by_cases hy : y = x2
              · subst hy
                have kp := hasAt_keeps hat.out
                have hy7 := kp.2 y (by simp)
                obtain ⟨k, rfl⟩ : ∃ k : Nat, y = k := ⟨y.toNat, by omega⟩
                have HAT : Hid (hasAt l (j + 1) = some ys) := by
                  have := hsu.out; rw [if_pos hgl, List.dropLast_concat] at this; exact this
                have HRX : Hid (Value.bool (ranF (l.take j)) = Value.bool (ranF (l.take (j + 1)))) := by
                  show _ = _
                  rw [hrn.out]
                have hk8 : k < 8 := by omega
                have hk8' : (k : Int) < 8 := by omega
                have hblt := hfb.out.lt
                have cN := hfb.out.cell hk8
                have fN := PlayFroz hfb.out.box k
                have HF9 := hid (fun o q => FB.del ((hfb.out.alloc o).drewN q) hlen9.symm hgl kp.1)
                simp only [List.dropLast_concat] at HF9
                generalize decide ((k : Int) ∈ ys ++ [(k : Int)]) = z at cN
                clear hsu hrn hno c1 c2 c3 kp hgl
                go_wp2_with fail
                go_quiet (fail)
                go_wp2_with fail
                go_roundw
                case rel =>
                  refine ⟨j + 1, ys, by omega, by go_num, HAT.out, HRX.out, ?_, by omega⟩
                  exact HF9.out _ _
                case measure => simp [intOf]; omega
              · have HN := hid (hno.out (by have := hsu.out; rw [hgl, if_neg (by simp; exact hy)] at this; exact this))
                have q9 : (y == x2) = false := by simp [hy]
                clear hsu hrn hno c1 c2 c3 hgl
                go_wp2_with fail
                go_quiet (fail)
                go_wp2_with fail
                go_ret
                exact ⟨by rw [HN.out]; rfl, below_drewN (hfb.out.alloc _).bel _⟩
          · have q3 : (x1 == 3) = false := by simp [c3]
            rw [if_neg c3] at hsu
            have HN := hid (hno.out hsu.out)
            clear hsu hrn hno c1 c2 c3
            go_wp2_with fail
            go_quiet (fail)
            go_wp2_with fail
            go_ret
            exact ⟨by rw [HN.out]; rfl, below_drewN (hfb.out.alloc _).bel _⟩
    · obtain rfl : j = l.length := by omega
      have HY := hid (HYES.out h hat.out)
      rw [HTK.out]
      generalize ranF l = rr at *
      cases rr with
      | false =>
        go_wp2_with fail
        go_ret
        exact ⟨by rw [HY.out]; rfl, hfb.out.bel⟩
      | true =>
        obtain ⟨a4, k4, e4, hrow, hcap⟩ := owni_row hfb.out.own
        simp only [Value.slice.injEq] at e4
        obtain ⟨rfl, rfl, rfl⟩ := e4
        have e0 : ((h.length : Int) == 0) = decide (h = []) := by
          cases h with
          | nil => rfl
          | cons y ys => simp; omega
        have HE := hid e0
        clear e0 hrow
        go_wp2_with fail
        go_ret
        exact ⟨by rw [HY.out, HE.out]; rfl, hfb.out.bel⟩
end LockC
end Go.Proofs.Ytllfpbngfkimlaa
