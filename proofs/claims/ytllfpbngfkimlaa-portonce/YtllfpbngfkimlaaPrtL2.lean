/- The law PortOnce. -/
import Derived.Test.YtllfpbngfkimlaaPrtL1
set_option linter.unusedVariables false
namespace Go.Proofs.Ytllfpbngfkimlaa
open Go.RowKit
open Go.Shelf Go.Sort
open SpanM SpanC IntsC
namespace PortC
open PrtM
/-- rows in blocks of their own -/
def Ap (v u : Value) : Prop := v.ownBlock = none ∨ u.ownBlock = none ∨ v.ownBlock ≠ u.ownBlock
theorem Ap.symm {v u : Value} (h : Ap v u) : Ap u v := by
  rcases h with h | h | h
  · exact .inr (.inl h)
  · exact .inl h
  · exact .inr (.inr (fun e => h e.symm))
theorem Ap.kept {v u : Value} (h : Ap v u) : v.ownBlock = none ∨ v.ownBlock ≠ u.ownBlock := by
  rcases h with h | h | h
  · exact .inl h
  · rw [h]; cases v.ownBlock <;> simp
  · exact .inr h
theorem Ap.grown {w : World} {B T : Nat} {α : Type} {E : RowG.Enc α} {v v' u : Value} {l : List α} {m : Nat} (h : Ap v u) (hu : RowG.Own E T w B u l) (hm : w.heap.size ≤ m) (h' : v'.ownBlock = v.ownBlock ∨ v'.ownBlock = some m) : Ap v' u := by
  rcases h' with e | e
  · unfold Ap; rw [e]; exact h
  · refine .inr (.inr fun q => ?_)
    have := (hu.lt m (by rw [← q, e])).2
    omega
theorem wpList_appS_at {ops : Array Oper} {rest : List Oper} {o : Oper} {a : Act} {Q : Exit → Act → World → Prop} {w : World} (hgd : o.guard = none) (s x : Operand)
    (ho : o.op = .call { callee := .builtin .append, args := #[s, x], argTypes := #[34, 34] })
    (B : Nat) (v : Value) (l : List ByteArray) (t : ByteArray) (b cap : Nat) (hs : a.eval s = v) (hown : OwnS w B v l) (hx : a.eval x = .slice (some ⟨b, 0, none⟩) 1 cap) (hm : w.cell? ⟨b, 0, none⟩ = some (.string t))
    (hl : l.length ≤ 100000) (hB : B ≤ w.heap.size)
    (h : ∀ v' w', OwnS w' B v' (l ++ [t]) → w.grownBy w' v.ownBlock → (v'.ownBlock = v.ownBlock ∨ v'.ownBlock = some w.heap.size) → wpList Try.prog ops Q rest (a.put o.dst v') w') : wpList Try.prog ops Q (o :: rest) a w := by
  obtain ⟨i0, hi, hz0, hz1, hz2⟩ := info_parts infoStr
  refine wpList_append_own_at w hgd s x 34 ho B 9 i0 (.string e0) 1 16 Try.underlying34 hi hz0 hz1 hz2 rfl (by decide) v l.length (ES.flat l) hs hown ⟨b, 0, none⟩ 1 cap [.string t] hx rfl ?_ (by intro u hu; simp at hu; subst hu; rfl) (by unfold maxLen; omega) (by omega) hB ?_
  · intro j u hj
    match j, hj with
    | 0, hj =>
      simp at hj
      subst hj
      exact hm
    | j + 1, hj => simp at hj
  · intro v' w' q1 q2 _ q4
    refine h v' w' ?_ q2 q4
    show World.ownsRow _ _ _ _ _ _ _
    rw [RowG.flat_append, List.length_append]
    exact q1
/-- what PortOnce knows behind so many ops -/
structure OI (w2 wr : World) (q : Pt) (k : Nat) (v10 v11 : Value) (W R : List ByteArray) : Prop where
  o10 : OwnS wr w2.heap.size v10 W
  o11 : OwnS wr w2.heap.size v11 R
  ap : Ap v10 v11
  eq : W = R ++ q.texts
  len : W.length ≤ k
  bel : Below w2.heap.size w2 wr
theorem OI.lens {w2 wr : World} {q : Pt} {k : Nat} {v10 v11 : Value} {W R : List ByteArray} (h : OI w2 wr q k v10 v11 W R) : W.length = R.length + q.texts.length := by rw [h.eq, List.length_append]
theorem OI.wr {w2 wr w3 : World} {q q' : Pt} {k : Nat} {v10 v11 v' : Value} {W R : List ByteArray} {s : ByteArray} {o1 o2 : Obj} (h : OI w2 wr q k v10 v11 W R) (ho : OwnS w3 w2.heap.size v' (W ++ [s])) (hg : ((wr.alloc o1).alloc o2).grownBy w3 v10.ownBlock) (hat : v'.ownBlock = v10.ownBlock ∨ v'.ownBlock = some ((wr.alloc o1).alloc o2).heap.size) (hT : q'.texts = q.texts ++ [s]) : OI w2 w3 q' (k + 1) v' v11 (W ++ [s]) R := by
  have hs : wr.heap.size ≤ ((wr.alloc o1).alloc o2).heap.size := by simp only [World.size_alloc]; omega
  refine ⟨ho, RowG.Own.kept (World.ownsRow.alloc (World.ownsRow.alloc h.o11 o1) o2) hg h.ap.symm.kept, h.ap.grown h.o11 hs hat, by rw [hT, h.eq, List.append_assoc], by rw [List.length_append]; have := h.len; simp; omega, ?_⟩
  have hb := (h.bel.alloc h.bel.size o1).alloc (by rw [World.size_alloc]; have := h.bel.size; omega) o2
  exact hb.grown hg hb.size (fun g hg2 => (h.o10.lt g hg2).1)
theorem OI.rd {w2 wr w3 : World} {q q' : Pt} {k : Nat} {v10 v11 v' : Value} {W R : List ByteArray} {s : ByteArray} {o1 o2 : Obj} (h : OI w2 wr q k v10 v11 W R) (ho : OwnS w3 w2.heap.size v' (R ++ [s])) (hg : ((wr.alloc o1).alloc o2).grownBy w3 v11.ownBlock) (hat : v'.ownBlock = v11.ownBlock ∨ v'.ownBlock = some ((wr.alloc o1).alloc o2).heap.size) (hT : q.texts = s :: q'.texts) : OI w2 w3 q' (k + 1) v10 v' W (R ++ [s]) := by
  have hs : wr.heap.size ≤ ((wr.alloc o1).alloc o2).heap.size := by simp only [World.size_alloc]; omega
  refine ⟨RowG.Own.kept (World.ownsRow.alloc (World.ownsRow.alloc h.o10 o1) o2) hg h.ap.kept, ho, (h.ap.symm.grown h.o10 hs hat).symm, by rw [h.eq, hT]; simp, by have := h.len; omega, ?_⟩
  have hb := (h.bel.alloc h.bel.size o1).alloc (by rw [World.size_alloc]; have := h.bel.size; omega) o2
  exact hb.grown hg hb.size (fun g hg2 => (h.o11.lt g hg2).1)
theorem OI.no {w2 wr : World} {q q' : Pt} {k : Nat} {v10 v11 : Value} {W R : List ByteArray} {o1 : Obj} (h : OI w2 wr q k v10 v11 W R) (hq : q' = q) : OI w2 (wr.alloc o1) q' (k + 1) v10 v11 W R :=
  ⟨World.ownsRow.alloc h.o10 o1, World.ownsRow.alloc h.o11 o1, h.ap, by rw [hq]; exact h.eq, by have := h.len; omega, h.bel.alloc h.bel.size o1⟩
theorem OI.nums {w2 wr : World} {q : Pt} {k N M : Nat} {v10 v11 : Value} {W R : List ByteArray} {n1 : Int} (h : OI w2 wr q k v10 v11 W R) (hN : N = W.length) (hM : M = R.length) (hr : (q.texts.length : Int) ≤ n1) (hk : k ≤ 600) : IntKind.i64.wrap ((N : Int) - (M : Int)) = (N : Int) - (M : Int) ∧ ¬ ((N : Int) - (M : Int) < 0) ∧ ¬ (n1 < (N : Int) - (M : Int)) := by
  have h1 := h.lens
  have h2 := h.len
  refine ⟨?_, by omega, by omega⟩
  rw [IntKind.wrap_i64]; omega
set_option maxRecDepth 20000 in
set_option maxHeartbeats 800000 in
theorem portOnce_no (n0 n1 : Int) (a : Option Addr) (c : Nat) (l : List PrtM.Op) (w : World) (hr : RdO w a l) (h : plE ⟨2, n0, n1, 0, [], 0⟩ l ≠ 0) :
    Calls Try.prog 6 #[.int .i64 n0, .int .i64 n1, .slice a l.length c] w fun e w' => e = .returned (.bool true) ∧ Below w.heap.size w w' := by
  have HP := hid (Play_no 2 n0 n1 0 a c l w hr h)
  have hE : (plE ⟨2, n0, n1, 0, [], 0⟩ l != 0) = true := by simp [h]
  generalize plE ⟨2, n0, n1, 0, [], 0⟩ l = E at *
  generalize l.length = n at *
  clear hr h
  go_enter Try.func6, Try.ntmps6
  go_wp2_with fail
  refine HP.out.mono ?_
  rintro e w1 ⟨rfl, b1⟩
  have HB1 := hid b1
  clear b1
  go_wp2_with fail
  refine (portLives_any _).mono ?_
  rintro e w2 ⟨rfl, b2⟩
  have HB2 := hid (bel_of HB1.out (of_alloc (box1 b2)))
  clear b2
  go_wp2_with fail
  refine (portLives_any _).mono ?_
  rintro e w3 ⟨rfl, b3⟩
  have HB3 := hid (bel_of HB2.out b3)
  clear b3
  go_wp2_with fail
  go_ret
  exact ⟨rfl, HB3.out⟩
set_option maxRecDepth 20000 in
set_option maxHeartbeats 1600000 in
theorem portOnce_yes (n0 n1 : Int) (a : Option Addr) (c : Nat) (l : List PrtM.Op) (w : World) (hr : RdO w a l) (h : plE ⟨2, n0, n1, 0, [], 0⟩ l = 0) :
    Calls Try.prog 6 #[.int .i64 n0, .int .i64 n1, .slice a l.length c] w fun e w' => e = .returned (.bool true) ∧ Below w.heap.size w w' := by
  have HP := hid (Play_yes 2 n0 n1 0 a c l w hr h)
  obtain ⟨hc0, hl⟩ := plE_zero h
  obtain ⟨p0, hp0⟩ : ∃ p0 : Pt, p0 = ⟨2, n0, n1, 0, [], 0⟩ := ⟨_, rfl⟩
  rw [← hp0] at HP hc0
  have HK : Hid (∀ k, (fin p0 (l.take k)).kind = 2 ∧ (fin p0 (l.take k)).room = n1 ∧ chk (fin p0 (l.take k)) = 0) := fun k => by
    obtain ⟨e1, _, e3, _⟩ := fin_same (l.take k) p0
    exact ⟨e1.trans (by rw [hp0]), e3.trans (by rw [hp0]), fin_ok hc0 _⟩
  have HT0 : Hid ((fin p0 (l.take 0)).texts = []) := by
    show _ = _; rw [List.take_zero, hp0]; rfl
  have HRD := hid hr
  have HTO := hid (fun k (hk : k < l.length) => told_at p0 l k hk)
  have HTL := hid (told_length l p0)
  have HFS := hid (fun k (hk : k < l.length) => fin_step p0 l k hk)
  have HFA : Hid (fin p0 (l.take l.length) = fin p0 l) := by show _ = _; rw [List.take_length]
  obtain ⟨n, hn⟩ : ∃ n, n = l.length := ⟨_, rfl⟩
  rw [← hn] at HP hl HTO HTL HFS HFA ⊢
  have HN := hid hn
  have hne : ((n : Int) != (n : Int)) = false := by simp
  clear hr h hc0 hp0 hn
  go_enter Try.func6, Try.ntmps6
  go_wp2_with fail
  refine HP.out.mono ?_
  rintro e w1 ⟨⟨k0, k1, k2, k3, au, nu, cu, k5, g, rfl, hot, hoa, heq⟩, b1⟩
  clear heq
  have HB1 := hid b1
  have HA1 := hid (own_rdA hoa)
  have HT1 := hid hot
  clear b1 hoa hot
  go_wp2_with fail
  refine (portLives_any _).mono ?_
  rintro e w2 ⟨rfl, b2⟩
  have hx2 : w2.cell? ⟨w1.heap.size, 4, none⟩ = some (.slice au nu cu) := (B1.c0 (B1.step (B1.start w1 #[.int .i64 k0, .int .i64 k1, .int .i64 k2, .int .i64 k3, .slice au nu cu, .int .i64 k5] 36) b2) 4)
  have hb2 : Below w1.heap.size w1 w2 := of_alloc (box1 b2)
  have HX2 := hid hx2
  have HB2 := hid (HB1.out.trans (hb2.mono HB1.out.size))
  have HA2 := hid (HA1.out.below hb2 (Nat.le_refl _))
  have HT2 := hid (RowG.Own.below HT1.out hb2 (Nat.le_refl _))
  clear b2 hb2 hx2
  go_wp2_with fail
  go_loopw [10, 11, 43] (fun v10 v11 v43 wr => ∃ (k : Nat) (W R : List ByteArray), k ≤ n ∧ v43 = .int .i64 k ∧ Hid (OI w2 wr (fin p0 (l.take k)) k v10 v11 W R)) (fun _ _ v43 _ => n - (intOf v43).toNat)
  case atStart => exact ⟨0, [], [], by omega, rfl, ⟨RowG.Own.nil _ _ _ _, RowG.Own.nil _ _ _ _, .inl rfl, by rw [HT0.out]; rfl, Nat.le_refl _, Below.refl _ _⟩⟩
  case round =>
    obtain ⟨k, W, R, hk, rfl, HI⟩ := hrel
    obtain ⟨a10, c10, hv10⟩ := RowG.Own.slice HI.out.o10
    obtain ⟨a11, c11, hv11⟩ := RowG.Own.slice HI.out.o11
    have hln := HI.out.lens
    have hlk := HI.out.len
    obtain ⟨N, hN⟩ : ∃ N, N = W.length := ⟨_, rfl⟩
    obtain ⟨M, hM⟩ : ∃ M, M = R.length := ⟨_, rfl⟩
    rw [← hN] at hv10
    rw [← hM] at hv11
    subst hv10
    subst hv11
    have HNM := hid (show N = M + (fin p0 (l.take k)).texts.length by omega)
    have HNk := hid (show N ≤ k by omega)
    have HNW := hid hN
    have HMR := hid hM
    clear hln hlk hN hM
    by_cases hlt : k < n
    · have hW := (Below.refl wr.heap.size wr).alloc (Nat.le_refl _) (.cells #[.int .i64 (l.getD k zOp).1, .int .i64 (l.getD k zOp).2.1, .string (l.getD k zOp).2.2] 48)
      obtain ⟨b, off, hab, c1, c2, c3⟩ := RdO.get ((HRD.out.below HB2.out (Nat.le_refl _)).below HI.out.bel (Nat.le_refl _)) k (by have := HN.out; omega)
      obtain ⟨b', off', hab', y0, y1, y2⟩ := RdA.get ((HA2.out.below HI.out.bel (Nat.le_refl _)).below hW (Nat.le_refl _)) k (by rw [HTL.out]; exact hlt)
      simp only [Option.some.injEq, Addr.mk.injEq, and_true] at hab'
      obtain ⟨hb1, hb2⟩ := hab'
      subst hb1
      subst hb2
      rw [Nat.zero_add] at y0 y1 y2
      subst hab
      obtain ⟨q1, q2, q3⟩ := HK.out k
      obtain ⟨q1', q2', q3'⟩ := HK.out (k + 1)
      have hrm := room_le q3
      have hrm' := room_le q3'
      rw [q2] at hrm
      rw [q2'] at hrm'
      rw [HTO.out k hlt] at y0 y1 y2
      have HFS1 := HFS.out k hlt
      have HW := hid hW
      have i1 : (k : Int) < (n : Int) := by omega
      clear hW
      generalize l.getD k zOp = o at *
      obtain ⟨ok, onow, os⟩ := o
      simp only at c1 c2 c3 y0 y1 y2 HW
      have HWR := hid (fun (e : ok = 1) (z : (doA (fin p0 (l.take k)) (ok, onow, os)).2.2 = 0) => (by subst e; rw [HFS1]; exact que_wr q1 z : (fin p0 (l.take (k + 1))).texts = (fin p0 (l.take k)).texts ++ [os]))
      have HRR := hid (fun (e : ok = 2) (z : (doA (fin p0 (l.take k)) (ok, onow, os)).2.2 = 0) => (by subst e; rw [HFS1]; exact que_rd q1 z : (fin p0 (l.take k)).texts = (doA (fin p0 (l.take k)) (ok, onow, os)).1 :: (fin p0 (l.take (k + 1))).texts))
      have HNO := hid (fun (z : (doA (fin p0 (l.take k)) (ok, onow, os)).2.2 ≠ 0) => (by rw [HFS1, doP_no z] : fin p0 (l.take (k + 1)) = fin p0 (l.take k)))
      have HKD := hid (fun (z : (doA (fin p0 (l.take k)) (ok, onow, os)).2.2 = 0) => err_kind z)
      have HRM := hid hrm
      have HRM' := hid hrm'
      clear q1 q2 q3 q1' q2' q3' HFS1 hrm hrm'
      generalize doA (fin p0 (l.take k)) (ok, onow, os) = A at *
      obtain ⟨a0, a1, a2⟩ := A
      simp only at y0 y1 y2 HWR HRR HNO HKD
      generalize hq9 : fin p0 (l.take (k + 1)) = q' at *
      have HQ9 := hid hq9
      clear hq9
      generalize fin p0 (l.take k) = q at *
      have HBW2 : Hid (Below w2.heap.size w2 (wr.alloc (.cells #[.int .i64 ok, .int .i64 onow, .string os] 48))) := HI.out.bel.trans (HW.out.mono HI.out.bel.size)
      by_cases ez : a2 = 0
      · rcases HKD.out ez with e | e
        · have hT := HWR.out e ez
          subst e
          subst ez
          clear HWR HRR HNO HKD
          have HOW := hid (World.ownsRow.alloc (World.ownsRow.alloc HI.out.o10 (.cells #[.int .i64 1, .int .i64 onow, .string os] 48)) (.cells #[.string os] 9))
          have HNL := hid (show W.length ≤ 100000 by have := HNW.out; have := HNk.out; omega)
          have HNEW := hid (show ((wr.alloc (.cells #[.int .i64 1, .int .i64 onow, .string os] 48)).alloc (.cells #[.string os] 9)).cell? ⟨wr.heap.size + 1, 0, none⟩ = some (.string os) from box_cell (by have := box_new (wr.alloc (.cells #[.int .i64 1, .int .i64 onow, .string os] 48)) #[.string os] 9; rw [World.size_alloc] at this; exact this) 0)
          have HBW3 := hid (show w2.heap.size ≤ ((wr.alloc (.cells #[.int .i64 1, .int .i64 onow, .string os] 48)).alloc (.cells #[.string os] 9)).heap.size by simp only [World.size_alloc]; have := HI.out.bel.size; omega)
          go_wp2_with (at_builtin; refine wpList_appS_at rfl _ _ rfl w2.heap.size (.slice a10 N c10) W os (wr.heap.size + 1) 1 rfl HOW.out rfl HNEW.out HNL.out HBW3.out ?_; intro v' w3 ho3 hg3 hat3; have HI3 := hid (OI.wr HI.out ho3 hg3 hat3 hT); obtain ⟨a', c', hv'⟩ := RowG.Own.slice ho3; obtain ⟨N', hN'⟩ : ∃ N', N' = (W ++ [os]).length := ⟨_, rfl⟩; rw [← hN'] at hv'; subst hv'; obtain ⟨s1, s2, s3⟩ := OI.nums HI3.out hN' HMR.out HRM'.out (by omega); have HN3 := hid hN'; clear ho3 hg3 hat3 hN')
          exact ⟨⟨k + 1, W ++ [os], R, by omega, by go_num, by rw [HQ9.out]; exact HI3.out⟩, by simp [intOf]; omega⟩
        · have hT := HRR.out e ez
          subst e
          subst ez
          clear HWR HRR HNO HKD
          have HOW := hid (World.ownsRow.alloc (World.ownsRow.alloc HI.out.o11 (.cells #[.int .i64 2, .int .i64 onow, .string os] 48)) (.cells #[.string a0] 9))
          have HNL := hid (show R.length ≤ 100000 by have := HMR.out; have := HNM.out; have := HNk.out; omega)
          have HNEW := hid (show ((wr.alloc (.cells #[.int .i64 2, .int .i64 onow, .string os] 48)).alloc (.cells #[.string a0] 9)).cell? ⟨wr.heap.size + 1, 0, none⟩ = some (.string a0) from box_cell (by have := box_new (wr.alloc (.cells #[.int .i64 2, .int .i64 onow, .string os] 48)) #[.string a0] 9; rw [World.size_alloc] at this; exact this) 0)
          have HBW3 := hid (show w2.heap.size ≤ ((wr.alloc (.cells #[.int .i64 2, .int .i64 onow, .string os] 48)).alloc (.cells #[.string a0] 9)).heap.size by simp only [World.size_alloc]; have := HI.out.bel.size; omega)
          go_wp2_with (at_builtin; refine wpList_appS_at rfl _ _ rfl w2.heap.size (.slice a11 M c11) R a0 (wr.heap.size + 1) 1 rfl HOW.out rfl HNEW.out HNL.out HBW3.out ?_; intro v' w3 ho3 hg3 hat3; have HI3 := hid (OI.rd HI.out ho3 hg3 hat3 hT); obtain ⟨a', c', hv'⟩ := RowG.Own.slice ho3; obtain ⟨N', hN'⟩ : ∃ N', N' = (R ++ [a0]).length := ⟨_, rfl⟩; rw [← hN'] at hv'; subst hv'; obtain ⟨s1, s2, s3⟩ := OI.nums HI3.out HNW.out hN' HRM'.out (by omega); have HN3 := hid hN'; clear ho3 hg3 hat3 hN')
          exact ⟨⟨k + 1, W, R ++ [a0], by omega, by go_num, by rw [HQ9.out]; exact HI3.out⟩, by simp [intOf]; omega⟩
      · have hz : (a2 != 0) = true := by simp [ez]
        have HI3 := hid (OI.no (o1 := .cells #[.int .i64 ok, .int .i64 onow, .string os] 48) HI.out (HNO.out ez))
        obtain ⟨s1, s2, s3⟩ := OI.nums HI3.out HNW.out HMR.out HRM'.out (by omega)
        clear HWR HRR HNO HKD ez
        go_wp2_with fail
        exact ⟨⟨k + 1, W, R, by omega, by go_num, by rw [HQ9.out]; exact HI3.out⟩, by simp [intOf]; omega⟩
    · obtain rfl : k = n := by omega
      have HI2 := hid HI.out
      rw [HFA.out] at HI2
      have hx3 := (HI.out.bel.cell (World.block_lt_of_cell? w2 _ HX2.out)).trans HX2.out
      obtain ⟨at', ct, et, hrt, hnt⟩ := RowG.Own.rd (RowG.Own.below HT2.out HI.out.bel (Nat.le_refl _))
      simp only [Value.slice.injEq] at et
      obtain ⟨e1, e2, e3⟩ := et
      subst e1
      subst e3
      have hlt2 := HI2.out.lens
      have hlen2 := HI2.out.len
      obtain ⟨a9, c9, hv9⟩ := RowG.Own.slice HI2.out.o10
      have HRT := hid hrt
      have HNT := hid hnt
      have HL9 := hid (show R.length + (fin p0 l).texts.length ≤ 100000 by omega)
      have HE9 : Hid (R ++ (fin p0 l).texts = W) := HI2.out.eq.symm
      have HWL := hid (show W.length ≤ 100000 by omega)
      generalize (fin p0 l).texts = T at *
      clear hrt hnt hlt2 hlen2 hv9
      subst e2
      go_wp2_with (at_builtin; refine wpList_appS rfl _ _ rfl w2.heap.size (.slice a11 M c11) R T au cu rfl HI2.out.o11 rfl HRT.out HNT.out HL9.out HI2.out.bel.size ?_; intro v' w3 ho3 hg3; have HO3 := hid ho3; have HG3 := hid hg3; clear ho3 hg3)
      obtain ⟨a', c', hv', hr', _⟩ := RowG.Own.rd HO3.out
      obtain ⟨a10', c10', hv10', hr10, _⟩ := RowG.Own.rd (RowG.Own.kept HI2.out.o10 HG3.out HI2.out.ap.kept)
      simp only [Value.slice.injEq] at hv10'
      obtain ⟨e1, e2, e3⟩ := hv10'
      subst e1
      subst e3
      rw [HE9.out] at hv' hr'
      rw [hv', e2]
      refine (eqS_any _ _ _ _ W W w3 hr' hr10 HWL.out).mono ?_
      rintro e w4 ⟨rfl, b4⟩
      rw [decide_eq_true rfl]
      have HB4 := hid (bel_of (HB2.out.trans ((HI2.out.bel.grown HG3.out HI2.out.bel.size (fun g hg => (HI2.out.o11.lt g hg).1)).mono HB2.out.size)) b4)
      clear b4 hv' hr' hr10 e2
      go_wp2_with fail
      go_ret
      exact ⟨rfl, HB4.out⟩
theorem portOnce_walk (n0 n1 : Int) (a2 : Option Addr) (len2 cap2 : Nat) (l2 : List PrtM.Op) (w : World) (h0 : SpanC.wf64 n0) (h1 : SpanC.wf64 n1) (h2 : RowsO.IsPos w a2 len2 cap2 l2) :
    Calls Try.prog 6 #[.int .i64 n0, .int .i64 n1, .slice a2 len2 cap2] w fun e w' => e = .returned (.bool true) ∧ Below w.heap.size w w' := by
  obtain ⟨rfl, _, _, hr, _⟩ := h2
  by_cases h : plE ⟨2, n0, n1, 0, [], 0⟩ l2 = 0
  · exact portOnce_yes n0 n1 a2 cap2 l2 w hr h
  · exact portOnce_no n0 n1 a2 cap2 l2 w hr h
end PortC
end Go.Proofs.Ytllfpbngfkimlaa
