/- Contracts of package table: Make. -/
import Derived.Test.YtgehdpohiphcpaaTabK
import Derived.Test.YtgehdpohiphcpaaTabS
import Derived.Test.YtgehdpohiphcpaaSpanF
set_option linter.unusedVariables false
namespace Go.Proofs.Ytgehdpohiphcpaa
open Go.RowKit
open SpanM SpanC TabM
namespace TabC
theorem RBox.allocT (w : World) : RBox w (w.alloc (.cells #[.int .i64 0, .slice none 0 0] 24)) w.heap.size where
  sz := by simp
  r0 := World.cell?_alloc_at _ _ _ _ (by simp)
  r1 := World.cell?_alloc_at _ _ _ _ (by simp)
  f0 := World.frozen?_alloc_at _ _ _ _ (by simp)
  f1 := World.frozen?_alloc_at _ _ _ _ (by simp)
  be := by go_grown
set_option maxHeartbeats 400000 in
theorem make_err (frame : Int) (a : Option Addr) (cap : Nat) (l : List Wnt) (w : World) (hr : Wts w a l) (hk : wchk frame l ≠ 0) :
    Calls Try.prog 19 #[.int .i64 frame, .slice a l.length cap] w fun e w' => e = .returned (.tuple #[.agg #[.int .i64 0, .slice none 0 0], .int .i64 (wchk frame l)]) ∧ Below w.heap.size w w' := by
  have hc := fun W (h : Below w.heap.size w W) => cw_any frame a cap l W (hr.below h (Nat.le_refl _))
  have hne : (wchk frame l != 0) = true := by simp [hk]
  clear hr hk
  generalize wchk frame l = c at hc hne ⊢
  have HC := hid hc
  clear hc
  go_enter Try.func19, Try.ntmps19
  go_wp2_with fail
  refine (HC.out _ (by go_grown)).mono ?_
  rintro e w1 ⟨rfl, b1⟩
  have RB := hid ((RBox.allocT w).step (b1.mono (by simp)) (Nat.le_refl _))
  obtain ⟨x1, x2, x3, x4, x5, x6⟩ := RB.out
  clear b1
  have z0 := RB.out.s0
  have z1 := RB.out.s1
  go_wp2_with fail
  exact bodyPost_ret (v := .tuple #[.agg #[.int .i64 0, .slice none 0 0], .int .i64 c]) (by simp [results, Try.results19, go_sem, z0, z1]) rfl ⟨rfl, by go_grown⟩
/-- what Make tells of wants that are right -/
def MakeTold (frame : Int) (l : List Wnt) (B : Nat) (e : Ending) (w' : World) : Prop :=
  (Apart (wins frame l) ∧ ∃ v ys, e = .returned (.tuple #[.agg #[.int .i64 frame, v], .int .i64 0]) ∧ OwnW w' B v ys ∧ ys.Perm (wins frame l) ∧ tchk frame ys = 0) ∨
  (¬ Apart (wins frame l) ∧ e = .returned (.tuple #[.agg #[.int .i64 0, .slice none 0 0], .int .i64 8]))
theorem take_cnt {frame : Int} {l : List Wnt} (hf : 0 ≤ frame) (h : ∀ x ∈ l, fitP frame x) (h2 : cntW frame l ≤ 200) (k : Nat) (hk : k < l.length) : ((wins frame (l.take k)).length : Int) + frame / (l.getD k z4).2.2.2 ≤ 200 := by
  have e : l = l.take k ++ l.getD k z4 :: l.drop (k + 1) := by rw [← drop_get z4 l k hk, List.take_append_drop]
  have h3 := h2
  rw [e, cntW_append, cntW] at h3
  have h4 := (cntW_bd hf (l := l.drop (k + 1)) fun x hx => h x (List.mem_of_mem_drop hx)).1
  rw [wins_len hf fun x hx => h x (List.mem_of_mem_take hx)]
  omega
set_option maxRecDepth 20000 in
set_option maxHeartbeats 3200000 in
theorem make_ok (frame : Int) (a : Option Addr) (cap : Nat) (l : List Wnt) (w : World) (hr : Wts w a l) (hk : wchk frame l = 0) :
    Calls Try.prog 19 #[.int .i64 frame, .slice a l.length cap] w fun e w' => MakeTold frame l w.heap.size e w' ∧ Below w.heap.size w w' := by
  have hc := fun W (h : Below w.heap.size w W) => cw_any frame a cap l W (hr.below h (Nat.le_refl _))
  rw [hk] at hc
  have HC := hid hc
  have HR := hid hr
  obtain ⟨s1, s2, s3, s4, s5⟩ := wchk_zero hk
  have HF := hid s4
  have HT := hid (take_cnt (by omega) s4 s5)
  have HN := hid s5
  clear hc hr hk s4 s5
  obtain ⟨i0, hi, hz0, hz1, hz2⟩ := info_parts infoWin
  have Hi := hid hi
  have Hz0 := hid hz0
  have Hz1 := hid hz1
  have Hz2 := hid hz2
  clear hi hz0 hz1 hz2
  go_enter Try.func19, Try.ntmps19
  go_wp2_with fail
  refine (HC.out _ (by go_grown)).mono ?_
  rintro e w1 ⟨rfl, b1⟩
  have RB := hid ((RBox.allocT w).step (b1.mono (by simp)) (Nat.le_refl _))
  clear b1
  go_wp2_with fail
  go_loopw [7, 21] (fun v7 v21 wr => ∃ k : Nat, k ≤ l.length ∧ v21 = .int .i64 k ∧ OwnW wr (w.heap.size + 1) v7 (wins frame (l.take k)) ∧ RBox w wr w.heap.size) (fun _ v21 _ => l.length - (intOf v21).toNat)
  case atStart => exact ⟨0, by omega, rfl, OwnW.nil _ _, RB.out⟩
  case round =>
    obtain ⟨w5, hw5⟩ : ∃ x, x = wr := ⟨_, rfl⟩
    subst hw5
    obtain ⟨k, hk, rfl, ho, rb⟩ := hrel
    have HO := hid ho
    have RB := hid rb
    have hsz := rb.sz
    obtain ⟨p7, n7, c7, hv7⟩ := ho.slice
    subst hv7
    by_cases hlt : k < l.length
    · obtain ⟨b, off, rfl, hbw, d1, d2, d3, d4⟩ := (HR.out.below rb.be (Nat.le_refl _)).at k hlt
      have hd := take_snoc z4 l k hlt
      have hfit := HF.out (l.getD k z4) (by simp [List.getD, hlt])
      have htk := HT.out k hlt
      have hfr : some w5.heap.size ≠ Value.ownBlock (.slice p7 n7 c7) := ho.fresh (Nat.le_refl _)
      clear ho rb
      generalize l.getD k z4 = z at d1 d2 d3 d4 hd hfit htk
      obtain ⟨o, f, n, e⟩ := z
      have Hd := hid hd
      clear hd
      simp only at d1 d2 d3 d4 htk
      obtain ⟨⟨e1, e2, e3⟩, ⟨o1, o2⟩, ⟨n1, n2⟩, f1, f2⟩ := hfit
      simp only at e1 e2 e3 o1 o2 n1 n2 f1 f2
      obtain ⟨q, hq⟩ : ∃ q : Nat, frame / e = q := ⟨(frame / e).toNat, by have := (quot_bd (frame := frame) (e := e) (by omega) e1).1; omega⟩
      have HQ := hid hq
      have hmul : (q : Int) * e = frame := by have := quot_mul e3; rw [hq, Int.mul_comm] at this; exact this
      rw [hq] at htk
      have HMUL := hid hmul
      clear hq e3 hmul
      have hlq : (wins frame (l.take k)).length + q ≤ 200 := by omega
      generalize hZ : wins frame (l.take k) = Z at HO hlq
      have HZ := hid hZ
      clear hZ htk
      go_wp2_with fail
      go_loopw [7, 10] (fun v7 v10 ws => ∃ (j : Nat) (bg : Int), j ≤ q ∧ v10 = .int .i64 bg ∧ Hid (bg = (j : Int) * e) ∧ 0 ≤ bg ∧ bg ≤ frame ∧ OwnW ws (w.heap.size + 1) v7 (Z ++ winsN (o, f, n, e) j) ∧ RBox w ws w.heap.size ∧ w5.heap.size < ws.heap.size ∧ some w5.heap.size ≠ v7.ownBlock ∧ ws.cell? ⟨w5.heap.size, 0, none⟩ = some (.int .i64 o) ∧ ws.cell? ⟨w5.heap.size, 1, none⟩ = some (.int .i64 f) ∧ ws.cell? ⟨w5.heap.size, 2, none⟩ = some (.int .i64 n) ∧ ws.cell? ⟨w5.heap.size, 3, none⟩ = some (.int .i64 e)) (fun _ v10 _ => (frame - intOf v10).toNat)
      case atStart =>
        refine ⟨0, 0, by omega, rfl, by show _ = _; simp, by omega, by omega, ?_, RB.out.step (Below.alloc (Below.refl _ _) hsz _) (Nat.le_refl _), by simp, hfr, World.cell?_alloc_at _ _ _ _ rfl, World.cell?_alloc_at _ _ _ _ rfl, World.cell?_alloc_at _ _ _ _ rfl, World.cell?_alloc_at _ _ _ _ rfl⟩
        have : Z ++ winsN (o, f, n, e) 0 = Z := by simp [winsN]
        rw [this]
        exact World.ownsRow.alloc HO.out _
      case round =>
        obtain ⟨j, bg, hj, rfl, hbg, g0, g1, hos, rbs, hxs, hne, y0, y1, y2, y3⟩ := hrel
        have HOS := hid hos
        have RBS := hid rbs
        have hszs := rbs.sz
        obtain ⟨p8, n8, c8, hv8⟩ := hos.slice
        subst hv8
        clear hos rbs
        have hmj : (j : Int) * e ≤ (q : Int) * e := Int.mul_le_mul_of_nonneg_right (by omega) (by omega)
        by_cases hjq : j < q
        · have hmj2 : ((j : Int) + 1) * e ≤ (q : Int) * e := Int.mul_le_mul_of_nonneg_right (by omega) (by omega)
          have hb1 : bg + e ≤ frame := by rw [← HMUL.out, hbg.out]; rw [Int.add_mul] at hmj2; omega
          have HBG : Hid (bg + e = ((j + 1 : Nat) : Int) * e) := by
            show _ = _
            rw [hbg.out, Int.natCast_add, Int.add_mul]; simp
          have HWN : Hid (Z ++ winsN (o, f, n, e) (j + 1) = (Z ++ winsN (o, f, n, e) j) ++ [(bg + f, n, o)]) := by
            show _ = _
            rw [winsN_succ, ← List.append_assoc, ← hbg.out]
          have hll : (Z ++ winsN (o, f, n, e) j).length ≤ 200 := by rw [List.length_append, winsN_len]; omega
          clear hmj hmj2
          generalize Z ++ winsN (o, f, n, e) j = Y at HOS HWN hll
          have hlt2 : bg < frame := by omega
          go_wp2_with (at_builtin; refine wpList_append_new _ rfl _ _ 22 rfl (w.heap.size + 1) 50 i0 (.agg #[.int .i64 0, .int .i64 0, .int .i64 0]) 3 24 Try.underlying22 Hi.out Hz0.out Hz1.out Hz2.out rfl (by decide) _ Y.length (flat3 Y) rfl ?qc0 ⟨wr.heap.size, 0, none⟩ 1 1 [.int .i64 (bg + f), .int .i64 n, .int .i64 o] ?qcx ?qc1 ?qc2 ?qc3 ?qc4 ?qc5 ?qc6 (by decide) ?_)
          case qc0 => exact World.ownsRow.alloc HOS.out _
          case qcx => rfl
          case qc1 => simp
          case qc2 =>
            intro i u hi
            match i, hi with
            | 0, hi => simp at hi; subst hi; exact World.cell?_alloc_at _ _ _ _ (by simp)
            | 1, hi => simp at hi; subst hi; exact World.cell?_alloc_at _ _ _ _ (by simp)
            | 2, hi => simp at hi; subst hi; exact World.cell?_alloc_at _ _ _ _ (by simp)
            | i + 3, hi => simp at hi
          case qc3 => intro u hu; simp at hu; rcases hu with rfl | rfl | rfl <;> rfl
          case qc4 => unfold maxLen; omega
          case qc5 => omega
          case qc6 => simp; omega
          intro v' w6 hown hgrow hnil hst
          have HO6 : Hid (OwnW w6 (w.heap.size + 1) v' (Y ++ [(bg + f, n, o)])) := by
            show w6.ownsRow _ _ _ _ _ _
            rw [flat3_append, List.length_append]
            exact hown
          have RB6 := hid (RBS.out.step (Below.grown (Below.alloc (Below.refl _ _) hszs _) hgrow (by simp; omega) (fun k hk => (World.ownsRow.lt HOS.out k hk).1)) (Nat.le_refl _))
          have hne6 := hid ((Stays.of (w := wr) hst (by simp)) w5.heap.size hxs hne)
          have hs6 := hgrow.size
          simp only [World.size_alloc] at hs6
          have u0 := hgrow.cell (a := ⟨w5.heap.size, 0, none⟩) (Lib.cell?_alloc_some _ y0) hne
          have u1 := hgrow.cell (a := ⟨w5.heap.size, 1, none⟩) (Lib.cell?_alloc_some _ y1) hne
          have u2 := hgrow.cell (a := ⟨w5.heap.size, 2, none⟩) (Lib.cell?_alloc_some _ y2) hne
          have u3 := hgrow.cell (a := ⟨w5.heap.size, 3, none⟩) (Lib.cell?_alloc_some _ y3) hne
          clear hown hgrow hnil hst y0 y1 y2 y3
          go_wp2_with fail
          go_roundw
          case rel => exact ⟨j + 1, bg + e, by omega, rfl, HBG, by omega, by omega, by rw [HWN.out]; exact HO6.out, RB6.out, by omega, hne6.out, u0, u1, u2, u3⟩
          case measure => simp [intOf]; omega
        · have hjq2 : j = q := by omega
          have hb1 : ¬ bg < frame := by rw [hbg.out, hjq2, HMUL.out]; omega
          have HW : Hid (wins frame (l.take (k + 1)) = Z ++ winsN (o, f, n, e) j) := by
            show _ = _
            rw [Hd.out, wins_append, wins_one, HZ.out, hjq2]
            unfold winsOf
            simp only
            rw [HQ.out]
            simp
          clear hmj
          go_wp2_with fail
          go_roundw
          case rel => exact ⟨k + 1, by omega, by go_num, by rw [HW.out]; exact HOS.out, RBS.out⟩
          case measure => simp [intOf]; omega
    · have he : l.take k = l := List.take_of_length_le (by omega)
      rw [he] at HO
      have hlen : (wins frame l).length ≤ 200 := by have := wins_len (frame := frame) (by omega) HF.out; have := HN.out; omega
      have hwf := wins_fit HF.out
      have HWF := hid hwf
      clear ho rb he hwf
      generalize hZ : wins frame l = Z at HO hlen HWF
      have HZ := hid hZ
      clear hZ
      go_wp2_with fail
      refine (sortW_any (w.heap.size + 1) _ Z _ HO.out (by omega) (by omega)).mono ?_
      rintro e w6 ⟨rfl, ys, hp, hpw, ho6, hb6⟩
      have hyl : ys.length ≤ 200 := by rw [hp.length_eq]; exact hlen
      have RB6 := hid (RB.out.step hb6 (Nat.le_refl _))
      have hyx : ∀ x ∈ ys, x.1 ≤ 9223372036854775807 := fun x hx => by
        have := HWF.out x (hp.mem_iff.1 hx)
        unfold wfit at this
        omega
      obtain ⟨a6, c6, hv6, hw6, _⟩ := ho6.wns hyx
      simp only [Value.slice.injEq] at hv6
      obtain ⟨rfl, rfl, rfl⟩ := hv6
      have HO6 := hid ho6
      have HP6 := hid hp
      have HCK := hid (check_list frame p7 c7 ys (w6.alloc (.cells #[.int .i64 frame, .slice p7 ys.length c7] 24)) s1 s2 (by omega) (hw6.below (Below.alloc (Below.refl _ _) (Nat.le_refl _) _) (Nat.le_refl _)))
      have hs6 := RB6.out.sz
      by_cases hA : Apart Z
      · have hg : wgood frame 0 ys = true := good_of hpw (hA.perm hp.symm) fun x hx => HWF.out x (hp.mem_iff.1 hx)
        have ht : tchkG frame ys = 0 := by unfold tchkG; rw [if_pos hg]
        rw [ht] at HCK
        have HT0 := hid (tchk_of s1 s2 hyl hg)
        have HA := hid hA
        clear hg ht hA hp hpw ho6 hb6 hyx hw6
        go_wp2_with fail
        refine HCK.out.mono ?_
        rintro e w7 ⟨rfl, b7⟩
        have RB7 := hid (RB6.out.step ((Below.alloc (Below.refl _ _) hs6 (.cells #[.int .i64 frame, .slice p7 ys.length c7] 24)).trans (b7.mono (by simp; omega))) (Nat.le_refl _))
        have HO7 := hid ((HO6.out.below (Below.alloc (Below.refl _ _) (Nat.le_refl _) (.cells #[.int .i64 frame, .slice p7 ys.length c7] 24)) (Nat.le_refl _)).below b7 (Nat.le_refl _))
        have t0 := (b7.cell (p := ⟨w6.heap.size, 0, none⟩) (by simp)).trans (World.cell?_alloc_at _ _ _ _ rfl)
        have t1 := (b7.cell (p := ⟨w6.heap.size, 1, none⟩) (by simp)).trans (World.cell?_alloc_at _ _ _ _ rfl)
        clear b7
        obtain ⟨x1, x2, x3, x4, x5, x6⟩ := RB7.out
        have z0 := RB7.out.s0
        have z1 := RB7.out.s1
        go_wp2_with fail
        refine bodyPost_ret (v := .tuple #[.agg #[.int .i64 frame, .slice p7 ys.length c7], .int .i64 0]) (by simp [results, Try.results19, go_sem, z0, z1]) rfl ⟨.inl ⟨by rw [HZ.out]; exact HA.out, _, ys, rfl, OwnW.base (ownsRow_setCell_below (ownsRow_setCell_below HO7.out (by simp) _) (by simp) _) (by omega), by rw [HZ.out]; exact HP6.out, HT0.out⟩, by go_grown⟩
      · have hg : ¬ wgood frame 0 ys = true := fun h => hA ((wgood_apart h).perm hp)
        have ht : tchkG frame ys = 4 := by unfold tchkG; rw [if_neg hg]
        rw [ht] at HCK
        have HA := hid hA
        clear hg ht hA hp hpw ho6 hb6 hyx hw6
        go_wp2_with fail
        refine HCK.out.mono ?_
        rintro e w7 ⟨rfl, b7⟩
        have RB7 := hid (RB6.out.step ((Below.alloc (Below.refl _ _) hs6 (.cells #[.int .i64 frame, .slice p7 ys.length c7] 24)).trans (b7.mono (by simp; omega))) (Nat.le_refl _))
        clear b7
        obtain ⟨x1, x2, x3, x4, x5, x6⟩ := RB7.out
        have z0 := RB7.out.s0
        have z1 := RB7.out.s1
        go_wp2_with fail
        exact bodyPost_ret (v := .tuple #[.agg #[.int .i64 0, .slice none 0 0], .int .i64 8]) (by simp [results, Try.results19, go_sem, z0, z1]) rfl ⟨.inr ⟨by rw [HZ.out]; exact HA.out, rfl⟩, by go_grown⟩
end TabC
end Go.Proofs.Ytgehdpohiphcpaa
