/- The law PortLast. -/
import Derived.Test.YtllfpbngfkimlaaPrtK
import Derived.Test.YtllfpbngfkimlaaPrtN
import Derived.Test.YtllfpbngfkimlaaOpenPo
import Derived.BigQuiet
set_option linter.unusedVariables false
namespace Go.Proofs.Ytllfpbngfkimlaa
open Go.RowKit
open Go.Shelf Go.Sort
open SpanM SpanC IntsC
namespace PortC
open PrtM
/-- Play, as the laws call it -/
theorem Play_no (kd sz rm fr : Int) (a : Option Addr) (c : Nat) (l : List PrtM.Op) (w : World) (hr : RdO w a l) (h : plE ⟨kd, sz, rm, fr, [], 0⟩ l ≠ 0) :
    Calls Try.prog 21 #[.int .i64 kd, .int .i64 sz, .int .i64 rm, .int .i64 fr, .slice a l.length c] w fun e w' => e = .returned (.tuple #[.agg #[.int .i64 0, .int .i64 0, .int .i64 0, .int .i64 0, .slice none 0 0, .int .i64 0], .slice none 0 0, .int .i64 (plE ⟨kd, sz, rm, fr, [], 0⟩ l)]) ∧ Below w.heap.size w w' :=
  (Play_any kd sz rm fr a c l w hr).mono fun e w' q => ⟨by rcases q.1 with ⟨_, q⟩ | ⟨q, _⟩; exact q; exact absurd q h, q.2⟩
theorem Play_yes (kd sz rm fr : Int) (a : Option Addr) (c : Nat) (l : List PrtM.Op) (w : World) (hr : RdO w a l) (h : plE ⟨kd, sz, rm, fr, [], 0⟩ l = 0) :
    Calls Try.prog 21 #[.int .i64 kd, .int .i64 sz, .int .i64 rm, .int .i64 fr, .slice a l.length c] w fun e w' => (∃ k0 k1 k2 k3 au nu cu k5 g, e = .returned (.tuple #[.agg #[.int .i64 k0, .int .i64 k1, .int .i64 k2, .int .i64 k3, .slice au nu cu, .int .i64 k5], .slice (some ⟨g, 0, none⟩) l.length l.length, .int .i64 0]) ∧ OwnS w' w.heap.size (.slice au nu cu) (fin ⟨kd, sz, rm, fr, [], 0⟩ l).texts ∧ OwnA w' w.heap.size (vS g l.length l.length) (told ⟨kd, sz, rm, fr, [], 0⟩ l) ∧ k5 = (fin ⟨kd, sz, rm, fr, [], 0⟩ l).tm ∧ k0 = (fin ⟨kd, sz, rm, fr, [], 0⟩ l).kind ∧ k1 = (fin ⟨kd, sz, rm, fr, [], 0⟩ l).size ∧ k2 = (fin ⟨kd, sz, rm, fr, [], 0⟩ l).room ∧ k3 = (fin ⟨kd, sz, rm, fr, [], 0⟩ l).fresh) ∧ Below w.heap.size w w' := by
  refine (Play_any kd sz rm fr a c l w hr).mono fun e w' q => ⟨?_, q.2⟩
  rcases q.1 with ⟨q, _⟩ | ⟨_, u, g, q1, q2, q3⟩
  · exact absurd h q
  · obtain ⟨au, cu, rfl⟩ := RowG.Own.slice q2
    exact ⟨_, _, _, _, _, _, _, _, g, q1, q2, q3, rfl, rfl, rfl, rfl, rfl⟩
theorem plE_zero {p : Pt} {l : List PrtM.Op} (h : plE p l = 0) : chk p = 0 ∧ l.length ≤ 500 := by
  unfold plE at h
  split at h
  · rename_i q; exact absurd h q
  · rename_i q
    split at h
    · simp at h
    · exact ⟨by simpa using q, by omega⟩
set_option maxRecDepth 20000 in
set_option maxHeartbeats 800000 in
theorem portLast_no (n0 n1 : Int) (a : Option Addr) (c : Nat) (l : List PrtM.Op) (w : World) (hr : RdO w a l) (h : plE ⟨1, n0, 1, n1, [], 0⟩ l ≠ 0) :
    Calls Try.prog 7 #[.int .i64 n0, .int .i64 n1, .slice a l.length c] w fun e w' => e = .returned (.bool true) ∧ Below w.heap.size w w' := by
  have HP := hid (Play_no 1 n0 1 n1 a c l w hr h)
  have hE : (plE ⟨1, n0, 1, n1, [], 0⟩ l != 0) = true := by simp [h]
  generalize plE ⟨1, n0, 1, n1, [], 0⟩ l = E at *
  generalize l.length = n at *
  clear hr h
  go_enter Try.func7, Try.ntmps7
  go_wp2_with fail
  refine HP.out.mono ?_
  rintro e w1 ⟨rfl, b1⟩
  have HB1 := hid b1
  clear b1
  go_wp2_with fail
  refine (portLives_any _).mono ?_
  rintro e w2 ⟨rfl, b2⟩
  have HB2 := hid (HB1.out.trans (((Below.refl _ w1).alloc (Nat.le_refl _) (.cells #[.int .i64 0, .int .i64 0, .int .i64 0, .int .i64 0, .slice none 0 0, .int .i64 0] 36)).trans (b2.mono (by rw [World.size_alloc]; omega)) |>.mono HB1.out.size))
  clear b2
  go_wp2_with fail
  refine (portLives_any _).mono ?_
  rintro e w3 ⟨rfl, b3⟩
  have HB3 := hid (HB2.out.trans (b3.mono HB2.out.size))
  clear b3
  go_wp2_with fail
  go_ret
  exact ⟨rfl, HB3.out⟩
set_option maxRecDepth 20000 in
set_option maxHeartbeats 1600000 in
theorem portLast_yes (n0 n1 : Int) (a : Option Addr) (c : Nat) (l : List PrtM.Op) (w : World) (hr : RdO w a l) (h : plE ⟨1, n0, 1, n1, [], 0⟩ l = 0) :
    Calls Try.prog 7 #[.int .i64 n0, .int .i64 n1, .slice a l.length c] w fun e w' => e = .returned (.bool true) ∧ Below w.heap.size w w' := by
  have HP := hid (Play_yes 1 n0 1 n1 a c l w hr h)
  obtain ⟨hc0, hl⟩ := plE_zero h
  obtain ⟨p0, hp0⟩ : ∃ p0 : Pt, p0 = ⟨1, n0, 1, n1, [], 0⟩ := ⟨_, rfl⟩
  rw [← hp0] at HP hc0
  have HK : Hid (∀ k, (fin p0 (l.take k)).kind = 1 ∧ (fin p0 (l.take k)).fresh = n1 ∧ chk (fin p0 (l.take k)) = 0) := fun k => by
    obtain ⟨e1, _, _, e4⟩ := fin_same (l.take k) p0
    exact ⟨e1.trans (by rw [hp0]), e4.trans (by rw [hp0]), fin_ok hc0 _⟩
  have HI0 : Hid (LastI (fin p0 (l.take 0)) e0 (-1)) := by
    rw [List.take_zero, hp0]; exact .inl ⟨rfl, rfl, rfl, rfl⟩
  have HRD := hid hr
  have HTO := hid (fun k (hk : k < l.length) => told_at p0 l k hk)
  have HTL := hid (told_length l p0)
  have HFS := hid (fun k (hk : k < l.length) => fin_step p0 l k hk)
  obtain ⟨n, hn⟩ : ∃ n, n = l.length := ⟨_, rfl⟩
  rw [← hn] at HP hl HTO HTL HFS ⊢
  have HN := hid hn
  have hne : ((n : Int) != (n : Int)) = false := by simp
  clear hr h hc0 hp0 hn
  go_enter Try.func7, Try.ntmps7
  go_wp2_with fail
  refine HP.out.mono ?_
  rintro e w1 ⟨⟨k0, k1, k2, k3, au, nu, cu, k5, g, rfl, _, hoa, _⟩, b1⟩
  have HB1 := hid b1
  have HA1 := hid (own_rdA hoa)
  clear b1 hoa
  go_wp2_with fail
  refine (portLives_any _).mono ?_
  rintro e w2 ⟨rfl, b2⟩
  have hb2 : Below w1.heap.size w1 w2 := of_alloc (box1 b2)
  have HB2 := hid (HB1.out.trans (hb2.mono HB1.out.size))
  have HA2 := hid (HA1.out.below hb2 (Nat.le_refl _))
  clear b2 hb2
  go_wp2_with fail
  go_loopw [10, 11, 42] (fun v10 v11 v42 wr => ∃ (k : Nat) (last : ByteArray) (tm : Int), k ≤ n ∧ v10 = .string last ∧ v11 = .int .i64 tm ∧ v42 = .int .i64 k ∧ Hid (LastI (fin p0 (l.take k)) last tm) ∧ Hid (Below w2.heap.size w2 wr)) (fun _ _ v42 _ => n - (intOf v42).toNat)
  case atStart => exact ⟨0, e0, -1, by omega, rfl, rfl, rfl, HI0.out, Below.refl _ _⟩
  case round =>
    obtain ⟨k, last, tm, hk, rfl, rfl, rfl, HI, HBW⟩ := hrel
    by_cases hlt : k < n
    · have hW := (Below.refl wr.heap.size wr).alloc (Nat.le_refl _) (.cells #[.int .i64 (l.getD k zOp).1, .int .i64 (l.getD k zOp).2.1, .string (l.getD k zOp).2.2] 48)
      obtain ⟨b, off, hab, c1, c2, c3⟩ := RdO.get ((HRD.out.below HB2.out (Nat.le_refl _)).below HBW.out (Nat.le_refl _)) k (by have := HN.out; omega)
      obtain ⟨b', off', hab', y0, y1, y2⟩ := RdA.get ((HA2.out.below HBW.out (Nat.le_refl _)).below hW (Nat.le_refl _)) k (by rw [HTL.out]; exact hlt)
      simp only [Option.some.injEq, Addr.mk.injEq, and_true] at hab'
      obtain ⟨hb1, hb2⟩ := hab'
      subst hb1
      subst hb2
      rw [Nat.zero_add] at y0 y1 y2
      subst hab
      obtain ⟨q1, q2, q3⟩ := HK.out k
      rw [HTO.out k hlt] at y0 y1 y2
      have HFS1 := HFS.out k hlt
      have HW := hid hW
      have i1 : (k : Int) < (n : Int) := by omega
      clear hW
      generalize l.getD k zOp = o at *
      obtain ⟨ok, onow, os⟩ := o
      simp only at c1 c2 c3 y0 y1 y2 HW
      have HWR := hid (fun (e : ok = 1) (z : (doA (fin p0 (l.take k)) (ok, onow, os)).2.2 = 0) => (by subst e; rw [HFS1]; exact HI.out.wr q1 z : LastI (fin p0 (l.take (k + 1))) os onow))
      have HRR := hid (fun (e : ok = 2) (z : (doA (fin p0 (l.take k)) (ok, onow, os)).2.2 = 0) => (by subst e; have t := HI.out.rd q1 z; rw [q2] at t; rw [HFS1, t.1]; exact ⟨HI.out, t.2⟩ : LastI (fin p0 (l.take (k + 1))) last tm ∧ 0 ≤ tm ∧ (doA (fin p0 (l.take k)) (ok, onow, os)).1 = last ∧ (doA (fin p0 (l.take k)) (ok, onow, os)).2.1 = decide (onow - tm ≤ n1) ∧ tm ≤ onow ∧ onow ≤ big))
      have HNO := hid (fun (z : (doA (fin p0 (l.take k)) (ok, onow, os)).2.2 ≠ 0) => (by rw [HFS1, doP_no z]; exact HI.out : LastI (fin p0 (l.take (k + 1))) last tm))
      have HND := hid (fun (e : ok = 2) (z : (doA (fin p0 (l.take k)) (ok, onow, os)).2.2 ≠ 0) => (by subst e; exact HI.out.none q3 z : ¬ (max tm 0 ≤ onow ∧ onow ≤ big ∧ 0 ≤ tm)))
      have HKD := hid (fun (z : (doA (fin p0 (l.take k)) (ok, onow, os)).2.2 = 0) => err_kind z)
      clear q1 q2 q3 HFS1
      generalize doA (fin p0 (l.take k)) (ok, onow, os) = A at *
      obtain ⟨a0, a1, a2⟩ := A
      simp only at y0 y1 y2 HWR HRR HNO HND HKD
      have HBW2 : Hid (Below w2.heap.size w2 (wr.alloc (.cells #[.int .i64 ok, .int .i64 onow, .string os] 48))) := HBW.out.trans (HW.out.mono HBW.out.size)
      by_cases ez : a2 = 0
      · rcases HKD.out ez with e | e
        · have HL := hid (HWR.out e ez)
          subst e
          subst ez
          clear HWR HRR HNO HND HKD
          go_wp2_with fail
          go_quiet (fail)
          go_wp2_with fail
          exact ⟨⟨k + 1, os, onow, by omega, rfl, rfl, by go_num, HL.out, below_drewN HBW2.out _⟩, by simp [intOf]; omega⟩
        · obtain ⟨hL, t0, t1, t2, t3, t4⟩ := HRR.out e ez
          have HL := hid hL
          have hw : IntKind.i64.wrap (onow - tm) = onow - tm := by rw [IntKind.wrap_i64]; have t5 : onow ≤ 1099511627776 := t4; omega
          have ht : ¬ tm < 0 := by omega
          subst e
          subst ez
          subst t1
          subst t2
          clear HWR HRR HNO HND HKD hL t0 t3 t4
          go_wp2_with fail
          refine wp_region_quiet_lit (by kernel_rfl) (by kernel_rfl) ?_
          repeat (first | go_big_quiet_step (fail) | quiet_step (fail))
          refine wpQuiet_nil ?_
          intro _ hw'
          obtain ⟨nq, hw''⟩ := hw'
          subst hw''
          go_wp2_with fail
          exact ⟨⟨k + 1, a0, tm, by omega, rfl, rfl, by go_num, HL.out, below_drewN HBW2.out _⟩, by simp [intOf]; omega⟩
      · have HL := hid (HNO.out ez)
        have hz : (a2 == 0) = false := by simp [ez]
        by_cases e1 : ok = 1
        · subst e1
          clear HWR HRR HNO HND HKD ez
          go_wp2_with fail
          exact ⟨⟨k + 1, last, tm, by omega, rfl, rfl, by go_num, HL.out, HBW2.out⟩, by simp [intOf]; omega⟩
        · by_cases e2 : ok = 2
          · subst e2
            have hnd := HND.out rfl ez
            clear HWR HRR HNO HND HKD ez e1
            by_cases t0 : tm < 0
            · have t1 : ¬ (0 ≤ tm) := by omega
              have t2 : max tm 0 = 0 := by omega
              clear hnd
              by_cases t3 : 0 ≤ onow
              · by_cases t4 : onow ≤ 1099511627776
                · go_wp2_with fail
                  exact ⟨⟨k + 1, last, tm, by omega, rfl, rfl, by go_num, HL.out, HBW2.out⟩, by simp [intOf]; omega⟩
                · go_wp2_with fail
                  exact ⟨⟨k + 1, last, tm, by omega, rfl, rfl, by go_num, HL.out, HBW2.out⟩, by simp [intOf]; omega⟩
              · go_wp2_with fail
                exact ⟨⟨k + 1, last, tm, by omega, rfl, rfl, by go_num, HL.out, HBW2.out⟩, by simp [intOf]; omega⟩
            · have t1 : 0 ≤ tm := by omega
              have t2 : max tm 0 = tm := by omega
              by_cases t3 : tm ≤ onow
              · have t4 : ¬ onow ≤ 1099511627776 := fun t => hnd ⟨by omega, t, t1⟩
                clear hnd
                go_wp2_with fail
                exact ⟨⟨k + 1, last, tm, by omega, rfl, rfl, by go_num, HL.out, HBW2.out⟩, by simp [intOf]; omega⟩
              · clear hnd
                go_wp2_with fail
                exact ⟨⟨k + 1, last, tm, by omega, rfl, rfl, by go_num, HL.out, HBW2.out⟩, by simp [intOf]; omega⟩
          · have h1 : (ok == 1) = false := by simp [e1]
            have h2 : (ok == 2) = false := by simp [e2]
            clear HWR HRR HNO HND HKD ez e1 e2
            go_wp2_with fail
            exact ⟨⟨k + 1, last, tm, by omega, rfl, rfl, by go_num, HL.out, HBW2.out⟩, by simp [intOf]; omega⟩
    · go_wp2_with fail
      go_ret
      exact ⟨rfl, HB2.out.trans (HBW.out.mono HB2.out.size)⟩
theorem portLast_walk (n0 n1 : Int) (a2 : Option Addr) (len2 cap2 : Nat) (l2 : List PrtM.Op) (w : World) (h0 : SpanC.wf64 n0) (h1 : SpanC.wf64 n1) (h2 : RowsO.IsPos w a2 len2 cap2 l2) :
    Calls Try.prog 7 #[.int .i64 n0, .int .i64 n1, .slice a2 len2 cap2] w fun e w' => e = .returned (.bool true) ∧ Below w.heap.size w w' := by
  obtain ⟨rfl, _, _, hr, _⟩ := h2
  by_cases h : plE ⟨1, n0, 1, n1, [], 0⟩ l2 = 0
  · exact portLast_yes n0 n1 a2 cap2 l2 w hr h
  · exact portLast_no n0 n1 a2 cap2 l2 w hr h
end PortC
end Go.Proofs.Ytllfpbngfkimlaa
