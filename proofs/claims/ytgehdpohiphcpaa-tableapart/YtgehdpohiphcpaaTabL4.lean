/- TableApart. -/
import Derived.Test.YtgehdpohiphcpaaTabZ
import Derived.Test.YtgehdpohiphcpaaTabO
import Derived.Test.YtgehdpohiphcpaaTabL0
import Derived.Test.YtgehdpohiphcpaaTabM4
import Derived.Test.YtgehdpohiphcpaaSpanT2
set_option linter.unusedVariables false
namespace Go.Proofs.Ytgehdpohiphcpaa
open Go.RowKit
open SpanM SpanC TabM
namespace TabC
set_option maxRecDepth 20000 in
set_option maxHeartbeats 3200000 in
theorem tableApart_n_g (size : Int) (a : Option Addr) (cap : Nat) (l : List Win) (pa pb t : Int) (w : World) (hr : Wns w a l) (hk : tchk size l = 0) (ha : ¬ (0 ≤ pa ∧ pa ≤ 15)) (ht1 : 0 ≤ t) (ht2 : t ≤ 1099511627776) :
    Calls Try.prog 7 #[.agg #[.int .i64 size, .slice a l.length cap], .int .i64 pa, .int .i64 pb, .int .i64 t] w fun e w' => e = .returned (.bool true) ∧ Below w.heap.size w w' := by
  obtain ⟨s1, s2, s3, s4⟩ := tchk_zero hk
  have HTI := hid (fun o W (h : Below w.heap.size w W) => times_says size o a cap l W (hr.below h (Nat.le_refl _)))
  have HCH := hid (fun W (h : Below w.heap.size w W) => check_ok size a cap l W (hr.below h (Nat.le_refl _)) hk)
  have hta : timE size pa l = 1 := by unfold timE; rw [if_pos hk, if_neg ha]
  have HOW := hid (fun W (h : Below w.heap.size w W) => owner_ok size t a cap l W (hr.below h (Nat.le_refl _)) hk ht1 ht2)
  have hM := wown_range s4 (t % size)
  obtain ⟨M, hMe⟩ : ∃ M, wown l (t % size) = M := ⟨_, rfl⟩
  rw [hMe] at HOW hM
  have HME := hid hMe
  clear hMe
  have HTK : Hid (∀ k : Int, 0 ≤ k → k ≤ 15 → timE size k l = 0) := fun k h1 h2 => by unfold timE; rw [if_pos hk, if_pos ⟨h1, h2⟩]
  have HBD : Hid (∀ k, 0 ≤ osL k l ∧ osL k l ≤ 200000000 ∧ 0 ≤ osE k l ∧ osE k l ≤ 200000000) := fun k => by
    have := osL_bd (k := k) (wgood_each s4) (by omega : 0 ≤ size)
    have h2 : size * l.length ≤ 1000000 * 200 := Int.mul_le_mul s2 (by omega) (by omega) (by omega)
    omega
  have HALL := hid (osL_all (l := l) fun x hx => ⟨(wgood_each s4 x hx).1, (wgood_each s4 x hx).2.1⟩)
  have HTOT : Hid (0 ≤ tot l ∧ tot l ≤ 200000000) := by have h := HBD.out 16; rw [HALL.out.2] at h; exact ⟨h.1, h.2.1⟩
  have HEA := hid (wgood_each s4)
  have HS4 := hid s4
  have HRW := hid hr
  have HTA := hid hta
  clear hr hk hta s4
  go_enter Try.func7, Try.ntmps7
  go_wp2_with fail
  refine (tlives _).mono ?_
  rintro e w1 ⟨rfl, b1⟩
  have T1 : Hid (TabIn w w1 size (.slice a l.length cap)) := box1 b1
  clear b1
  have c0 : w1.cell? ⟨w.heap.size, 0, none⟩ = some (.int .i64 size) := boxc T1.out 0
  have c1 : w1.cell? ⟨w.heap.size, 1, none⟩ = some (.slice a l.length cap) := boxc T1.out 1
  have zz1 : w.heap.size < w1.heap.size := by have := T1.out.size; simp at this; omega
  go_wp2_with fail
  refine (HCH.out _ (of_alloc T1.out)).mono ?_
  rintro e w2 ⟨rfl, b2⟩
  have T2 : Hid (TabIn w w2 size (.slice a l.length cap)) := box2 T1.out b2
  clear b2 c0 c1
  have c0 : w2.cell? ⟨w.heap.size, 0, none⟩ = some (.int .i64 size) := boxc T2.out 0
  have c1 : w2.cell? ⟨w.heap.size, 1, none⟩ = some (.slice a l.length cap) := boxc T2.out 1
  have zz2 : w.heap.size < w2.heap.size := by have := T2.out.size; simp at this; omega
  go_wp2_with fail
  refine (HTI.out pa _ (of_alloc T2.out)).mono ?_
  rintro e w3 ⟨⟨q3, sa3, cs3, r3, er3, rfl, hs3, hml3, her3, hok3, herr3⟩, b3⟩
  rw [HTA.out] at her3
  subst her3
  obtain ⟨rfl, rfl⟩ := herr3 (by decide)
  clear hok3 herr3
  have T3 : Hid (TabIn w w3 size (.slice a l.length cap)) := box2 T2.out b3
  have X3 := hid (CellS.new (s := 0) (c := cs3) hs3 hml3)
  clear b3 hs3 hml3 c0 c1
  have c0 : w3.cell? ⟨w.heap.size, 0, none⟩ = some (.int .i64 size) := boxc T3.out 0
  have c1 : w3.cell? ⟨w.heap.size, 1, none⟩ = some (.slice a l.length cap) := boxc T3.out 1
  have zz3 : w.heap.size < w3.heap.size := by have := T3.out.size; simp at this; omega
  go_wp2_with fail
  refine (HTI.out pb _ (of_alloc (T3.out.al (Below.refl _ _)))).mono ?_
  rintro e w4 ⟨⟨q4, sa4, cs4, r4, er4, rfl, hs4, hml4, her4, hok4, herr4⟩, b4⟩
  clear hok4 herr4 her4
  have T4 : Hid (TabIn w w4 size (.slice a l.length cap)) := T3.out.al b4
  have X4 := hid (X3.out.step b4)
  have Y4 := hid (CellS.new (s := q4) (c := cs4) hs4 hml4)
  clear b4 hs4 hml4 c0 c1
  have c0 : w4.cell? ⟨w.heap.size, 0, none⟩ = some (.int .i64 size) := boxc T4.out 0
  have c1 : w4.cell? ⟨w.heap.size, 1, none⟩ = some (.slice a l.length cap) := boxc T4.out 1
  have zz4 : w.heap.size < w4.heap.size := by have := T4.out.size; simp at this; omega
  have X4' := hid (X4.out.alloc (.cells #[.int .i64 q4, .slice sa4 r4.length cs4] 30))
  go_wp2_with fail
  refine (HOW.out _ (of_alloc (T4.out.al (Below.refl _ _)))).mono ?_
  rintro e w5 ⟨rfl, b5⟩
  have T5 : Hid (TabIn w w5 size (.slice a l.length cap)) := T4.out.al b5
  have X5 := hid (X4'.out.step b5)
  have Y5 := hid (Y4.out.step b5)
  clear b5 c0 c1
  have c0 : w5.cell? ⟨w.heap.size, 0, none⟩ = some (.int .i64 size) := boxc T5.out 0
  have c1 : w5.cell? ⟨w.heap.size, 1, none⟩ = some (.slice a l.length cap) := boxc T5.out 1
  have zz5 : w.heap.size < w5.heap.size := by have := T5.out.size; simp at this; omega
  have x0 := X5.out.c0
  have x1 := X5.out.c1
  have y0 := Y5.out.c0
  have y1 := Y5.out.c1
  go_wp2_with fail
  go_loopw [19, 99] (fun v19 v99 wr => ∃ k : Nat, k ≤ 16 ∧ v19 = .int .i64 (osL k l) ∧ v99 = .int .i64 k ∧ TabIn w wr size (.slice a l.length cap)) (fun _ v99 _ => 16 - (intOf v99).toNat)
  case atStart => exact ⟨0, by omega, by rw [show ((0 : Nat) : Int) = 0 from rfl, HALL.out.1], rfl, T5.out⟩
  case round =>
    obtain ⟨k, hk, rfl, rfl, hT⟩ := hrel
    have TR := hid hT
    have c0 : wr.cell? ⟨w.heap.size, 0, none⟩ = some (.int .i64 size) := boxc TR.out 0
    have c1 : wr.cell? ⟨w.heap.size, 1, none⟩ = some (.slice a l.length cap) := boxc TR.out 1
    have zr : w.heap.size < wr.heap.size := by have := TR.out.size; simp at this; omega
    clear hT
    have hbk := HBD.out (k : Int)
    by_cases hk16 : k < 16
    · have hos := osL_succ (k : Int) l
      have HOS := hid hos
      clear hos
      generalize hSk : osL (k : Int) l = Sk at *
      have HSk := hid hSk
      clear hSk
      go_wp2_with fail
      refine (HTI.out (k : Int) _ (of_alloc TR.out)).mono ?_
      rintro e w8 ⟨⟨q8, sa8, cs8, r8, er8, rfl, hs8, hml8, her8, hok8, _⟩, b8⟩
      rw [HTK.out (k : Int) (by omega) (by omega)] at her8
      subst her8
      obtain ⟨hss8, hck8, hmm8⟩ := hok8 rfl
      have hss := hss8.symm
      clear hss8
      subst hss
      have hcb := cb_own (frame := size) (o := (k : Int)) s1 (by omega) (chk_zero hck8).2.2.2 HS4.out hmm8
      have HCO := hid (fun W (h : Below w8.heap.size w8 W) => count_ok size 0 size sa8 cs8 r8 W (hs8.below h (Nat.le_refl _)) hck8 (by omega) (by omega) (by omega))
      rw [hcb] at HCO
      have T8 : Hid (TabIn w w8 size (.slice a l.length cap)) := box2 TR.out b8
      clear b8 hs8 hml8 hok8 hck8 hmm8 hcb c0 c1
      generalize hEk : osE (k : Int) l = Ek at *
      have HEk := hid hEk
      clear hEk
      have c0 : w8.cell? ⟨w.heap.size, 0, none⟩ = some (.int .i64 size) := boxc T8.out 0
      have c1 : w8.cell? ⟨w.heap.size, 1, none⟩ = some (.slice a l.length cap) := boxc T8.out 1
      have z8 : w.heap.size < w8.heap.size := by have := T8.out.size; simp at this; omega
      go_wp2_with fail
      refine (HCO.out _ (Below.alloc (Below.refl _ _) (Nat.le_refl _) _)).mono ?_
      rintro e w9 ⟨rfl, b9⟩
      have T9 : Hid (TabIn w w9 size (.slice a l.length cap)) := T8.out.al b9
      clear b9 c0 c1
      go_wp2_with fail
      go_roundw
      case rel => exact ⟨k + 1, by omega, by rw [Int.natCast_add, show ((1 : Nat) : Int) = 1 from rfl, HOS.out], by go_num, T9.out⟩
      case measure => simp [intOf]; omega
    · have hk' : k = 16 := by omega
      subst hk'
      have e16 : osL ((16 : Nat) : Int) l = tot l := HALL.out.2
      rw [e16] at hbk ⊢
      clear e16
      obtain ⟨Tt, hTt⟩ : ∃ Tt, tot l = Tt := ⟨_, rfl⟩
      rw [hTt] at hbk ⊢
      have HTt := hid hTt
      clear hTt
      go_wp2_with fail
      go_loopw [19, 128] (fun v19 v128 ws => ∃ (j : Nat) (c : Int), j ≤ l.length ∧ v19 = .int .i64 c ∧ v128 = .int .i64 j ∧ Hid (c = tot (l.drop j)) ∧ 0 ≤ c ∧ c ≤ 200000000 ∧ TabIn w ws size (.slice a l.length cap)) (fun _ v128 _ => l.length - (intOf v128).toNat)
      case atStart => exact ⟨0, Tt, by omega, rfl, rfl, by show _ = _; rw [List.drop_zero]; exact HTt.out.symm, hbk.1, hbk.2.1, TR.out⟩
      case round =>
        obtain ⟨j, c, hj, rfl, rfl, hc, hc0, hc1, hT2⟩ := hrel
        have TS := hid hT2
        have hszs := hT2.size
        simp only [World.size_alloc] at hszs
        by_cases hjl : j < l.length
        · obtain ⟨b, off, rfl, hbw, d1, d2, d3⟩ := HRW.out.get hT2 j hjl
          have hd := tot_drop l j hjl
          have hge := HEA.out (l.getD j z3) (by simp [List.getD, hjl])
          have hnn := (osL_bd (k := 0) (l := l.drop (j + 1)) (fun x hx => HEA.out x (List.mem_of_mem_drop hx)) (by omega : 0 ≤ size)).2.2.2.2.1
          clear hT2
          generalize l.getD j z3 = z at d1 d2 d3 hd hge
          obtain ⟨x1, x2, x3⟩ := z
          simp only [wfit] at d1 d2 d3 hd hge
          have hcv : c - x2 = tot (l.drop (j + 1)) := by rw [hc.out, hd]; omega
          have hcn : 0 ≤ c - x2 := by rw [hcv]; exact hnn
          have HCV := hid hcv
          clear hcv hnn hd
          go_wp2_with fail
          go_roundw
          case rel => exact ⟨j + 1, _, by omega, rfl, by go_num, HCV, hcn, by omega, TS.out.al (Below.refl _ _)⟩
          case measure => simp [intOf]; omega
        · have hc2 : c = 0 := by rw [hc.out, List.drop_of_length_le (by omega)]; rfl
          subst hc2
          clear hT2
          obtain ⟨hm1, hm2⟩ := hM
          have hm3 : decide (-1 ≤ M) = true := by simp; omega
          have hm4 : decide (M < 16) = true := by simp; omega
          go_wp2_with fail
          go_ret
          exact ⟨by first | rfl | simp | (simp; omega), of_alloc TS.out⟩
set_option maxRecDepth 20000 in
set_option maxHeartbeats 3200000 in
theorem tableApart_n_n (size : Int) (a : Option Addr) (cap : Nat) (l : List Win) (pa pb t : Int) (w : World) (hr : Wns w a l) (hk : tchk size l = 0) (ha : ¬ (0 ≤ pa ∧ pa ≤ 15)) (ht : ¬ (0 ≤ t ∧ t ≤ 1099511627776)) :
    Calls Try.prog 7 #[.agg #[.int .i64 size, .slice a l.length cap], .int .i64 pa, .int .i64 pb, .int .i64 t] w fun e w' => e = .returned (.bool true) ∧ Below w.heap.size w w' := by
  obtain ⟨s1, s2, s3, s4⟩ := tchk_zero hk
  have HTI := hid (fun o W (h : Below w.heap.size w W) => times_says size o a cap l W (hr.below h (Nat.le_refl _)))
  have HCH := hid (fun W (h : Below w.heap.size w W) => check_ok size a cap l W (hr.below h (Nat.le_refl _)) hk)
  have hta : timE size pa l = 1 := by unfold timE; rw [if_pos hk, if_neg ha]
  have HOW := hid (fun W (h : Below w.heap.size w W) => owner_arg size t a cap l W (hr.below h (Nat.le_refl _)) hk ht)
  have HTK : Hid (∀ k : Int, 0 ≤ k → k ≤ 15 → timE size k l = 0) := fun k h1 h2 => by unfold timE; rw [if_pos hk, if_pos ⟨h1, h2⟩]
  have HBD : Hid (∀ k, 0 ≤ osL k l ∧ osL k l ≤ 200000000 ∧ 0 ≤ osE k l ∧ osE k l ≤ 200000000) := fun k => by
    have := osL_bd (k := k) (wgood_each s4) (by omega : 0 ≤ size)
    have h2 : size * l.length ≤ 1000000 * 200 := Int.mul_le_mul s2 (by omega) (by omega) (by omega)
    omega
  have HALL := hid (osL_all (l := l) fun x hx => ⟨(wgood_each s4 x hx).1, (wgood_each s4 x hx).2.1⟩)
  have HTOT : Hid (0 ≤ tot l ∧ tot l ≤ 200000000) := by have h := HBD.out 16; rw [HALL.out.2] at h; exact ⟨h.1, h.2.1⟩
  have HEA := hid (wgood_each s4)
  have HS4 := hid s4
  have HRW := hid hr
  have HTA := hid hta
  clear hr hk hta s4
  go_enter Try.func7, Try.ntmps7
  go_wp2_with fail
  refine (tlives _).mono ?_
  rintro e w1 ⟨rfl, b1⟩
  have T1 : Hid (TabIn w w1 size (.slice a l.length cap)) := box1 b1
  clear b1
  have c0 : w1.cell? ⟨w.heap.size, 0, none⟩ = some (.int .i64 size) := boxc T1.out 0
  have c1 : w1.cell? ⟨w.heap.size, 1, none⟩ = some (.slice a l.length cap) := boxc T1.out 1
  have zz1 : w.heap.size < w1.heap.size := by have := T1.out.size; simp at this; omega
  go_wp2_with fail
  refine (HCH.out _ (of_alloc T1.out)).mono ?_
  rintro e w2 ⟨rfl, b2⟩
  have T2 : Hid (TabIn w w2 size (.slice a l.length cap)) := box2 T1.out b2
  clear b2 c0 c1
  have c0 : w2.cell? ⟨w.heap.size, 0, none⟩ = some (.int .i64 size) := boxc T2.out 0
  have c1 : w2.cell? ⟨w.heap.size, 1, none⟩ = some (.slice a l.length cap) := boxc T2.out 1
  have zz2 : w.heap.size < w2.heap.size := by have := T2.out.size; simp at this; omega
  go_wp2_with fail
  refine (HTI.out pa _ (of_alloc T2.out)).mono ?_
  rintro e w3 ⟨⟨q3, sa3, cs3, r3, er3, rfl, hs3, hml3, her3, hok3, herr3⟩, b3⟩
  rw [HTA.out] at her3
  subst her3
  obtain ⟨rfl, rfl⟩ := herr3 (by decide)
  clear hok3 herr3
  have T3 : Hid (TabIn w w3 size (.slice a l.length cap)) := box2 T2.out b3
  have X3 := hid (CellS.new (s := 0) (c := cs3) hs3 hml3)
  clear b3 hs3 hml3 c0 c1
  have c0 : w3.cell? ⟨w.heap.size, 0, none⟩ = some (.int .i64 size) := boxc T3.out 0
  have c1 : w3.cell? ⟨w.heap.size, 1, none⟩ = some (.slice a l.length cap) := boxc T3.out 1
  have zz3 : w.heap.size < w3.heap.size := by have := T3.out.size; simp at this; omega
  go_wp2_with fail
  refine (HTI.out pb _ (of_alloc (T3.out.al (Below.refl _ _)))).mono ?_
  rintro e w4 ⟨⟨q4, sa4, cs4, r4, er4, rfl, hs4, hml4, her4, hok4, herr4⟩, b4⟩
  clear hok4 herr4 her4
  have T4 : Hid (TabIn w w4 size (.slice a l.length cap)) := T3.out.al b4
  have X4 := hid (X3.out.step b4)
  have Y4 := hid (CellS.new (s := q4) (c := cs4) hs4 hml4)
  clear b4 hs4 hml4 c0 c1
  have c0 : w4.cell? ⟨w.heap.size, 0, none⟩ = some (.int .i64 size) := boxc T4.out 0
  have c1 : w4.cell? ⟨w.heap.size, 1, none⟩ = some (.slice a l.length cap) := boxc T4.out 1
  have zz4 : w.heap.size < w4.heap.size := by have := T4.out.size; simp at this; omega
  have X4' := hid (X4.out.alloc (.cells #[.int .i64 q4, .slice sa4 r4.length cs4] 30))
  go_wp2_with fail
  refine (HOW.out _ (of_alloc (T4.out.al (Below.refl _ _)))).mono ?_
  rintro e w5 ⟨rfl, b5⟩
  have T5 : Hid (TabIn w w5 size (.slice a l.length cap)) := T4.out.al b5
  have X5 := hid (X4'.out.step b5)
  have Y5 := hid (Y4.out.step b5)
  clear b5 c0 c1
  have c0 : w5.cell? ⟨w.heap.size, 0, none⟩ = some (.int .i64 size) := boxc T5.out 0
  have c1 : w5.cell? ⟨w.heap.size, 1, none⟩ = some (.slice a l.length cap) := boxc T5.out 1
  have zz5 : w.heap.size < w5.heap.size := by have := T5.out.size; simp at this; omega
  have x0 := X5.out.c0
  have x1 := X5.out.c1
  have y0 := Y5.out.c0
  have y1 := Y5.out.c1
  go_wp2_with fail
  go_loopw [19, 99] (fun v19 v99 wr => ∃ k : Nat, k ≤ 16 ∧ v19 = .int .i64 (osL k l) ∧ v99 = .int .i64 k ∧ TabIn w wr size (.slice a l.length cap)) (fun _ v99 _ => 16 - (intOf v99).toNat)
  case atStart => exact ⟨0, by omega, by rw [show ((0 : Nat) : Int) = 0 from rfl, HALL.out.1], rfl, T5.out⟩
  case round =>
    obtain ⟨k, hk, rfl, rfl, hT⟩ := hrel
    have TR := hid hT
    have c0 : wr.cell? ⟨w.heap.size, 0, none⟩ = some (.int .i64 size) := boxc TR.out 0
    have c1 : wr.cell? ⟨w.heap.size, 1, none⟩ = some (.slice a l.length cap) := boxc TR.out 1
    have zr : w.heap.size < wr.heap.size := by have := TR.out.size; simp at this; omega
    clear hT
    have hbk := HBD.out (k : Int)
    by_cases hk16 : k < 16
    · have hos := osL_succ (k : Int) l
      have HOS := hid hos
      clear hos
      generalize hSk : osL (k : Int) l = Sk at *
      have HSk := hid hSk
      clear hSk
      go_wp2_with fail
      refine (HTI.out (k : Int) _ (of_alloc TR.out)).mono ?_
      rintro e w8 ⟨⟨q8, sa8, cs8, r8, er8, rfl, hs8, hml8, her8, hok8, _⟩, b8⟩
      rw [HTK.out (k : Int) (by omega) (by omega)] at her8
      subst her8
      obtain ⟨hss8, hck8, hmm8⟩ := hok8 rfl
      have hss := hss8.symm
      clear hss8
      subst hss
      have hcb := cb_own (frame := size) (o := (k : Int)) s1 (by omega) (chk_zero hck8).2.2.2 HS4.out hmm8
      have HCO := hid (fun W (h : Below w8.heap.size w8 W) => count_ok size 0 size sa8 cs8 r8 W (hs8.below h (Nat.le_refl _)) hck8 (by omega) (by omega) (by omega))
      rw [hcb] at HCO
      have T8 : Hid (TabIn w w8 size (.slice a l.length cap)) := box2 TR.out b8
      clear b8 hs8 hml8 hok8 hck8 hmm8 hcb c0 c1
      generalize hEk : osE (k : Int) l = Ek at *
      have HEk := hid hEk
      clear hEk
      have c0 : w8.cell? ⟨w.heap.size, 0, none⟩ = some (.int .i64 size) := boxc T8.out 0
      have c1 : w8.cell? ⟨w.heap.size, 1, none⟩ = some (.slice a l.length cap) := boxc T8.out 1
      have z8 : w.heap.size < w8.heap.size := by have := T8.out.size; simp at this; omega
      go_wp2_with fail
      refine (HCO.out _ (Below.alloc (Below.refl _ _) (Nat.le_refl _) _)).mono ?_
      rintro e w9 ⟨rfl, b9⟩
      have T9 : Hid (TabIn w w9 size (.slice a l.length cap)) := T8.out.al b9
      clear b9 c0 c1
      go_wp2_with fail
      go_roundw
      case rel => exact ⟨k + 1, by omega, by rw [Int.natCast_add, show ((1 : Nat) : Int) = 1 from rfl, HOS.out], by go_num, T9.out⟩
      case measure => simp [intOf]; omega
    · have hk' : k = 16 := by omega
      subst hk'
      have e16 : osL ((16 : Nat) : Int) l = tot l := HALL.out.2
      rw [e16] at hbk ⊢
      clear e16
      obtain ⟨Tt, hTt⟩ : ∃ Tt, tot l = Tt := ⟨_, rfl⟩
      rw [hTt] at hbk ⊢
      have HTt := hid hTt
      clear hTt
      go_wp2_with fail
      go_loopw [19, 128] (fun v19 v128 ws => ∃ (j : Nat) (c : Int), j ≤ l.length ∧ v19 = .int .i64 c ∧ v128 = .int .i64 j ∧ Hid (c = tot (l.drop j)) ∧ 0 ≤ c ∧ c ≤ 200000000 ∧ TabIn w ws size (.slice a l.length cap)) (fun _ v128 _ => l.length - (intOf v128).toNat)
      case atStart => exact ⟨0, Tt, by omega, rfl, rfl, by show _ = _; rw [List.drop_zero]; exact HTt.out.symm, hbk.1, hbk.2.1, TR.out⟩
      case round =>
        obtain ⟨j, c, hj, rfl, rfl, hc, hc0, hc1, hT2⟩ := hrel
        have TS := hid hT2
        have hszs := hT2.size
        simp only [World.size_alloc] at hszs
        by_cases hjl : j < l.length
        · obtain ⟨b, off, rfl, hbw, d1, d2, d3⟩ := HRW.out.get hT2 j hjl
          have hd := tot_drop l j hjl
          have hge := HEA.out (l.getD j z3) (by simp [List.getD, hjl])
          have hnn := (osL_bd (k := 0) (l := l.drop (j + 1)) (fun x hx => HEA.out x (List.mem_of_mem_drop hx)) (by omega : 0 ≤ size)).2.2.2.2.1
          clear hT2
          generalize l.getD j z3 = z at d1 d2 d3 hd hge
          obtain ⟨x1, x2, x3⟩ := z
          simp only [wfit] at d1 d2 d3 hd hge
          have hcv : c - x2 = tot (l.drop (j + 1)) := by rw [hc.out, hd]; omega
          have hcn : 0 ≤ c - x2 := by rw [hcv]; exact hnn
          have HCV := hid hcv
          clear hcv hnn hd
          go_wp2_with fail
          go_roundw
          case rel => exact ⟨j + 1, _, by omega, rfl, by go_num, HCV, hcn, by omega, TS.out.al (Below.refl _ _)⟩
          case measure => simp [intOf]; omega
        · have hc2 : c = 0 := by rw [hc.out, List.drop_of_length_le (by omega)]; rfl
          subst hc2
          clear hT2
          go_wp2_with fail
          go_ret
          exact ⟨by first | rfl | simp, of_alloc TS.out⟩
set_option maxRecDepth 20000 in
set_option maxHeartbeats 3200000 in
theorem tableApart_yn_g (size : Int) (a : Option Addr) (cap : Nat) (l : List Win) (pa pb t : Int) (w : World) (hr : Wns w a l) (hk : tchk size l = 0) (ha1 : 0 ≤ pa) (ha2 : pa ≤ 15) (hb : ¬ (0 ≤ pb ∧ pb ≤ 15)) (ht1 : 0 ≤ t) (ht2 : t ≤ 1099511627776) :
    Calls Try.prog 7 #[.agg #[.int .i64 size, .slice a l.length cap], .int .i64 pa, .int .i64 pb, .int .i64 t] w fun e w' => e = .returned (.bool true) ∧ Below w.heap.size w w' := by
  obtain ⟨s1, s2, s3, s4⟩ := tchk_zero hk
  have HTI := hid (fun o W (h : Below w.heap.size w W) => times_says size o a cap l W (hr.below h (Nat.le_refl _)))
  have HCH := hid (fun W (h : Below w.heap.size w W) => check_ok size a cap l W (hr.below h (Nat.le_refl _)) hk)
  have hta : timE size pa l = 0 := by unfold timE; rw [if_pos hk, if_pos ⟨ha1, ha2⟩]
  have htb : timE size pb l = 1 := by unfold timE; rw [if_pos hk, if_neg hb]
  have HOW := hid (fun W (h : Below w.heap.size w W) => owner_ok size t a cap l W (hr.below h (Nat.le_refl _)) hk ht1 ht2)
  have hM := wown_range s4 (t % size)
  obtain ⟨M, hMe⟩ : ∃ M, wown l (t % size) = M := ⟨_, rfl⟩
  rw [hMe] at HOW hM
  have HME := hid hMe
  clear hMe
  have HTK : Hid (∀ k : Int, 0 ≤ k → k ≤ 15 → timE size k l = 0) := fun k h1 h2 => by unfold timE; rw [if_pos hk, if_pos ⟨h1, h2⟩]
  have HBD : Hid (∀ k, 0 ≤ osL k l ∧ osL k l ≤ 200000000 ∧ 0 ≤ osE k l ∧ osE k l ≤ 200000000) := fun k => by
    have := osL_bd (k := k) (wgood_each s4) (by omega : 0 ≤ size)
    have h2 : size * l.length ≤ 1000000 * 200 := Int.mul_le_mul s2 (by omega) (by omega) (by omega)
    omega
  have HALL := hid (osL_all (l := l) fun x hx => ⟨(wgood_each s4 x hx).1, (wgood_each s4 x hx).2.1⟩)
  have HTOT : Hid (0 ≤ tot l ∧ tot l ≤ 200000000) := by have h := HBD.out 16; rw [HALL.out.2] at h; exact ⟨h.1, h.2.1⟩
  have HEA := hid (wgood_each s4)
  have HS4 := hid s4
  have HRW := hid hr
  have HTA := hid hta
  have HTB := hid htb
  clear hr hk hta s4 htb
  go_enter Try.func7, Try.ntmps7
  go_wp2_with fail
  refine (tlives _).mono ?_
  rintro e w1 ⟨rfl, b1⟩
  have T1 : Hid (TabIn w w1 size (.slice a l.length cap)) := box1 b1
  clear b1
  have c0 : w1.cell? ⟨w.heap.size, 0, none⟩ = some (.int .i64 size) := boxc T1.out 0
  have c1 : w1.cell? ⟨w.heap.size, 1, none⟩ = some (.slice a l.length cap) := boxc T1.out 1
  have zz1 : w.heap.size < w1.heap.size := by have := T1.out.size; simp at this; omega
  go_wp2_with fail
  refine (HCH.out _ (of_alloc T1.out)).mono ?_
  rintro e w2 ⟨rfl, b2⟩
  have T2 : Hid (TabIn w w2 size (.slice a l.length cap)) := box2 T1.out b2
  clear b2 c0 c1
  have c0 : w2.cell? ⟨w.heap.size, 0, none⟩ = some (.int .i64 size) := boxc T2.out 0
  have c1 : w2.cell? ⟨w.heap.size, 1, none⟩ = some (.slice a l.length cap) := boxc T2.out 1
  have zz2 : w.heap.size < w2.heap.size := by have := T2.out.size; simp at this; omega
  go_wp2_with fail
  refine (HTI.out pa _ (of_alloc T2.out)).mono ?_
  rintro e w3 ⟨⟨q3, sa3, cs3, r3, er3, rfl, hs3, hml3, her3, hok3, herr3⟩, b3⟩
  rw [HTA.out] at her3
  subst her3
  obtain ⟨hss3, hck3, hmm3⟩ := hok3 rfl
  have hss := hss3.symm
  clear hss3
  subst hss
  have HCK3 := hid hck3
  have HMM3 := hid hmm3
  clear hck3 hmm3 hok3 herr3
  have T3 : Hid (TabIn w w3 size (.slice a l.length cap)) := box2 T2.out b3
  have X3 := hid (CellS.new (s := size) (c := cs3) hs3 hml3)
  clear b3 hs3 hml3 c0 c1
  have c0 : w3.cell? ⟨w.heap.size, 0, none⟩ = some (.int .i64 size) := boxc T3.out 0
  have c1 : w3.cell? ⟨w.heap.size, 1, none⟩ = some (.slice a l.length cap) := boxc T3.out 1
  have zz3 : w.heap.size < w3.heap.size := by have := T3.out.size; simp at this; omega
  go_wp2_with fail
  refine (HTI.out pb _ (of_alloc (T3.out.al (Below.refl _ _)))).mono ?_
  rintro e w4 ⟨⟨q4, sa4, cs4, r4, er4, rfl, hs4, hml4, her4, hok4, herr4⟩, b4⟩
  rw [HTB.out] at her4
  subst her4
  obtain ⟨rfl, rfl⟩ := herr4 (by decide)
  clear hok4 herr4
  have T4 : Hid (TabIn w w4 size (.slice a l.length cap)) := T3.out.al b4
  have X4 := hid (X3.out.step b4)
  have Y4 := hid (CellS.new (s := 0) (c := cs4) hs4 hml4)
  clear b4 hs4 hml4 c0 c1
  have c0 : w4.cell? ⟨w.heap.size, 0, none⟩ = some (.int .i64 size) := boxc T4.out 0
  have c1 : w4.cell? ⟨w.heap.size, 1, none⟩ = some (.slice a l.length cap) := boxc T4.out 1
  have zz4 : w.heap.size < w4.heap.size := by have := T4.out.size; simp at this; omega
  have X4' := hid (X4.out.alloc (.cells #[.int .i64 0, .slice sa4 0 cs4] 30))
  go_wp2_with fail
  refine (HOW.out _ (of_alloc (T4.out.al (Below.refl _ _)))).mono ?_
  rintro e w5 ⟨rfl, b5⟩
  have T5 : Hid (TabIn w w5 size (.slice a l.length cap)) := T4.out.al b5
  have X5 := hid (X4'.out.step b5)
  have Y5 := hid (Y4.out.step b5)
  clear b5 c0 c1
  have c0 : w5.cell? ⟨w.heap.size, 0, none⟩ = some (.int .i64 size) := boxc T5.out 0
  have c1 : w5.cell? ⟨w.heap.size, 1, none⟩ = some (.slice a l.length cap) := boxc T5.out 1
  have zz5 : w.heap.size < w5.heap.size := by have := T5.out.size; simp at this; omega
  have x0 := X5.out.c0
  have x1 := X5.out.c1
  have y0 := Y5.out.c0
  have y1 := Y5.out.c1
  go_wp2_with fail
  refine (has_ok size t sa3 cs3 r3 _ X5.out.sp HCK3.out ht1 ht2).mono ?_
  rintro e w7 ⟨rfl, b7⟩
  have hh := HMM3.out (t % size)
  rw [HME.out] at hh
  rw [hh]
  clear hh
  have T7 : Hid (TabIn w w7 size (.slice a l.length cap)) := T5.out.trans (b7.mono (by have := T5.out.size; simp at this ⊢; omega))
  clear b7 c0 c1 x0 x1 y0 y1
  have c0 : w7.cell? ⟨w.heap.size, 0, none⟩ = some (.int .i64 size) := boxc T7.out 0
  have c1 : w7.cell? ⟨w.heap.size, 1, none⟩ = some (.slice a l.length cap) := boxc T7.out 1
  have zz7 : w.heap.size < w7.heap.size := by have := T7.out.size; simp at this; omega
  have hq : (M == pa) = decide (M = pa) := by by_cases h : M = pa <;> simp [h]
  generalize decide (M = pa) = D at *
  have hd0 : (D != D) = false := by simp
  go_wp2_with fail
  go_loopw [19, 99] (fun v19 v99 wr => ∃ k : Nat, k ≤ 16 ∧ v19 = .int .i64 (osL k l) ∧ v99 = .int .i64 k ∧ TabIn w wr size (.slice a l.length cap)) (fun _ v99 _ => 16 - (intOf v99).toNat)
  case atStart => exact ⟨0, by omega, by rw [show ((0 : Nat) : Int) = 0 from rfl, HALL.out.1], rfl, T7.out⟩
  case round =>
    obtain ⟨k, hk, rfl, rfl, hT⟩ := hrel
    have TR := hid hT
    have c0 : wr.cell? ⟨w.heap.size, 0, none⟩ = some (.int .i64 size) := boxc TR.out 0
    have c1 : wr.cell? ⟨w.heap.size, 1, none⟩ = some (.slice a l.length cap) := boxc TR.out 1
    have zr : w.heap.size < wr.heap.size := by have := TR.out.size; simp at this; omega
    clear hT
    have hbk := HBD.out (k : Int)
    by_cases hk16 : k < 16
    · have hos := osL_succ (k : Int) l
      have HOS := hid hos
      clear hos
      generalize hSk : osL (k : Int) l = Sk at *
      have HSk := hid hSk
      clear hSk
      go_wp2_with fail
      refine (HTI.out (k : Int) _ (of_alloc TR.out)).mono ?_
      rintro e w8 ⟨⟨q8, sa8, cs8, r8, er8, rfl, hs8, hml8, her8, hok8, _⟩, b8⟩
      rw [HTK.out (k : Int) (by omega) (by omega)] at her8
      subst her8
      obtain ⟨hss8, hck8, hmm8⟩ := hok8 rfl
      have hss := hss8.symm
      clear hss8
      subst hss
      have hcb := cb_own (frame := size) (o := (k : Int)) s1 (by omega) (chk_zero hck8).2.2.2 HS4.out hmm8
      have HCO := hid (fun W (h : Below w8.heap.size w8 W) => count_ok size 0 size sa8 cs8 r8 W (hs8.below h (Nat.le_refl _)) hck8 (by omega) (by omega) (by omega))
      rw [hcb] at HCO
      have T8 : Hid (TabIn w w8 size (.slice a l.length cap)) := box2 TR.out b8
      clear b8 hs8 hml8 hok8 hck8 hmm8 hcb c0 c1
      generalize hEk : osE (k : Int) l = Ek at *
      have HEk := hid hEk
      clear hEk
      have c0 : w8.cell? ⟨w.heap.size, 0, none⟩ = some (.int .i64 size) := boxc T8.out 0
      have c1 : w8.cell? ⟨w.heap.size, 1, none⟩ = some (.slice a l.length cap) := boxc T8.out 1
      have z8 : w.heap.size < w8.heap.size := by have := T8.out.size; simp at this; omega
      go_wp2_with fail
      refine (HCO.out _ (Below.alloc (Below.refl _ _) (Nat.le_refl _) _)).mono ?_
      rintro e w9 ⟨rfl, b9⟩
      have T9 : Hid (TabIn w w9 size (.slice a l.length cap)) := T8.out.al b9
      clear b9 c0 c1
      go_wp2_with fail
      go_roundw
      case rel => exact ⟨k + 1, by omega, by rw [Int.natCast_add, show ((1 : Nat) : Int) = 1 from rfl, HOS.out], by go_num, T9.out⟩
      case measure => simp [intOf]; omega
    · have hk' : k = 16 := by omega
      subst hk'
      have e16 : osL ((16 : Nat) : Int) l = tot l := HALL.out.2
      rw [e16] at hbk ⊢
      clear e16
      obtain ⟨Tt, hTt⟩ : ∃ Tt, tot l = Tt := ⟨_, rfl⟩
      rw [hTt] at hbk ⊢
      have HTt := hid hTt
      clear hTt
      go_wp2_with fail
      go_loopw [19, 128] (fun v19 v128 ws => ∃ (j : Nat) (c : Int), j ≤ l.length ∧ v19 = .int .i64 c ∧ v128 = .int .i64 j ∧ Hid (c = tot (l.drop j)) ∧ 0 ≤ c ∧ c ≤ 200000000 ∧ TabIn w ws size (.slice a l.length cap)) (fun _ v128 _ => l.length - (intOf v128).toNat)
      case atStart => exact ⟨0, Tt, by omega, rfl, rfl, by show _ = _; rw [List.drop_zero]; exact HTt.out.symm, hbk.1, hbk.2.1, TR.out⟩
      case round =>
        obtain ⟨j, c, hj, rfl, rfl, hc, hc0, hc1, hT2⟩ := hrel
        have TS := hid hT2
        have hszs := hT2.size
        simp only [World.size_alloc] at hszs
        by_cases hjl : j < l.length
        · obtain ⟨b, off, rfl, hbw, d1, d2, d3⟩ := HRW.out.get hT2 j hjl
          have hd := tot_drop l j hjl
          have hge := HEA.out (l.getD j z3) (by simp [List.getD, hjl])
          have hnn := (osL_bd (k := 0) (l := l.drop (j + 1)) (fun x hx => HEA.out x (List.mem_of_mem_drop hx)) (by omega : 0 ≤ size)).2.2.2.2.1
          clear hT2
          generalize l.getD j z3 = z at d1 d2 d3 hd hge
          obtain ⟨x1, x2, x3⟩ := z
          simp only [wfit] at d1 d2 d3 hd hge
          have hcv : c - x2 = tot (l.drop (j + 1)) := by rw [hc.out, hd]; omega
          have hcn : 0 ≤ c - x2 := by rw [hcv]; exact hnn
          have HCV := hid hcv
          clear hcv hnn hd
          go_wp2_with fail
          go_roundw
          case rel => exact ⟨j + 1, _, by omega, rfl, by go_num, HCV, hcn, by omega, TS.out.al (Below.refl _ _)⟩
          case measure => simp [intOf]; omega
        · have hc2 : c = 0 := by rw [hc.out, List.drop_of_length_le (by omega)]; rfl
          subst hc2
          clear hT2
          obtain ⟨hm1, hm2⟩ := hM
          have hm3 : decide (-1 ≤ M) = true := by simp; omega
          have hm4 : decide (M < 16) = true := by simp; omega
          go_wp2_with fail
          go_ret
          exact ⟨by first | rfl | simp | (simp; omega), of_alloc TS.out⟩
set_option maxRecDepth 20000 in
set_option maxHeartbeats 3200000 in
theorem tableApart_yn_n (size : Int) (a : Option Addr) (cap : Nat) (l : List Win) (pa pb t : Int) (w : World) (hr : Wns w a l) (hk : tchk size l = 0) (ha1 : 0 ≤ pa) (ha2 : pa ≤ 15) (hb : ¬ (0 ≤ pb ∧ pb ≤ 15)) (ht : ¬ (0 ≤ t ∧ t ≤ 1099511627776)) :
    Calls Try.prog 7 #[.agg #[.int .i64 size, .slice a l.length cap], .int .i64 pa, .int .i64 pb, .int .i64 t] w fun e w' => e = .returned (.bool true) ∧ Below w.heap.size w w' := by
  obtain ⟨s1, s2, s3, s4⟩ := tchk_zero hk
  have HTI := hid (fun o W (h : Below w.heap.size w W) => times_says size o a cap l W (hr.below h (Nat.le_refl _)))
  have HCH := hid (fun W (h : Below w.heap.size w W) => check_ok size a cap l W (hr.below h (Nat.le_refl _)) hk)
  have hta : timE size pa l = 0 := by unfold timE; rw [if_pos hk, if_pos ⟨ha1, ha2⟩]
  have htb : timE size pb l = 1 := by unfold timE; rw [if_pos hk, if_neg hb]
  have HOW := hid (fun W (h : Below w.heap.size w W) => owner_arg size t a cap l W (hr.below h (Nat.le_refl _)) hk ht)
  have HTK : Hid (∀ k : Int, 0 ≤ k → k ≤ 15 → timE size k l = 0) := fun k h1 h2 => by unfold timE; rw [if_pos hk, if_pos ⟨h1, h2⟩]
  have HBD : Hid (∀ k, 0 ≤ osL k l ∧ osL k l ≤ 200000000 ∧ 0 ≤ osE k l ∧ osE k l ≤ 200000000) := fun k => by
    have := osL_bd (k := k) (wgood_each s4) (by omega : 0 ≤ size)
    have h2 : size * l.length ≤ 1000000 * 200 := Int.mul_le_mul s2 (by omega) (by omega) (by omega)
    omega
  have HALL := hid (osL_all (l := l) fun x hx => ⟨(wgood_each s4 x hx).1, (wgood_each s4 x hx).2.1⟩)
  have HTOT : Hid (0 ≤ tot l ∧ tot l ≤ 200000000) := by have h := HBD.out 16; rw [HALL.out.2] at h; exact ⟨h.1, h.2.1⟩
  have HEA := hid (wgood_each s4)
  have HS4 := hid s4
  have HRW := hid hr
  have HTA := hid hta
  have HTB := hid htb
  clear hr hk hta s4 htb
  go_enter Try.func7, Try.ntmps7
  go_wp2_with fail
  refine (tlives _).mono ?_
  rintro e w1 ⟨rfl, b1⟩
  have T1 : Hid (TabIn w w1 size (.slice a l.length cap)) := box1 b1
  clear b1
  have c0 : w1.cell? ⟨w.heap.size, 0, none⟩ = some (.int .i64 size) := boxc T1.out 0
  have c1 : w1.cell? ⟨w.heap.size, 1, none⟩ = some (.slice a l.length cap) := boxc T1.out 1
  have zz1 : w.heap.size < w1.heap.size := by have := T1.out.size; simp at this; omega
  go_wp2_with fail
  refine (HCH.out _ (of_alloc T1.out)).mono ?_
  rintro e w2 ⟨rfl, b2⟩
  have T2 : Hid (TabIn w w2 size (.slice a l.length cap)) := box2 T1.out b2
  clear b2 c0 c1
  have c0 : w2.cell? ⟨w.heap.size, 0, none⟩ = some (.int .i64 size) := boxc T2.out 0
  have c1 : w2.cell? ⟨w.heap.size, 1, none⟩ = some (.slice a l.length cap) := boxc T2.out 1
  have zz2 : w.heap.size < w2.heap.size := by have := T2.out.size; simp at this; omega
  go_wp2_with fail
  refine (HTI.out pa _ (of_alloc T2.out)).mono ?_
  rintro e w3 ⟨⟨q3, sa3, cs3, r3, er3, rfl, hs3, hml3, her3, hok3, herr3⟩, b3⟩
  rw [HTA.out] at her3
  subst her3
  obtain ⟨hss3, hck3, hmm3⟩ := hok3 rfl
  have hss := hss3.symm
  clear hss3
  subst hss
  have HCK3 := hid hck3
  have HMM3 := hid hmm3
  clear hck3 hmm3 hok3 herr3
  have T3 : Hid (TabIn w w3 size (.slice a l.length cap)) := box2 T2.out b3
  have X3 := hid (CellS.new (s := size) (c := cs3) hs3 hml3)
  clear b3 hs3 hml3 c0 c1
  have c0 : w3.cell? ⟨w.heap.size, 0, none⟩ = some (.int .i64 size) := boxc T3.out 0
  have c1 : w3.cell? ⟨w.heap.size, 1, none⟩ = some (.slice a l.length cap) := boxc T3.out 1
  have zz3 : w.heap.size < w3.heap.size := by have := T3.out.size; simp at this; omega
  go_wp2_with fail
  refine (HTI.out pb _ (of_alloc (T3.out.al (Below.refl _ _)))).mono ?_
  rintro e w4 ⟨⟨q4, sa4, cs4, r4, er4, rfl, hs4, hml4, her4, hok4, herr4⟩, b4⟩
  rw [HTB.out] at her4
  subst her4
  obtain ⟨rfl, rfl⟩ := herr4 (by decide)
  clear hok4 herr4
  have T4 : Hid (TabIn w w4 size (.slice a l.length cap)) := T3.out.al b4
  have X4 := hid (X3.out.step b4)
  have Y4 := hid (CellS.new (s := 0) (c := cs4) hs4 hml4)
  clear b4 hs4 hml4 c0 c1
  have c0 : w4.cell? ⟨w.heap.size, 0, none⟩ = some (.int .i64 size) := boxc T4.out 0
  have c1 : w4.cell? ⟨w.heap.size, 1, none⟩ = some (.slice a l.length cap) := boxc T4.out 1
  have zz4 : w.heap.size < w4.heap.size := by have := T4.out.size; simp at this; omega
  have X4' := hid (X4.out.alloc (.cells #[.int .i64 0, .slice sa4 0 cs4] 30))
  go_wp2_with fail
  refine (HOW.out _ (of_alloc (T4.out.al (Below.refl _ _)))).mono ?_
  rintro e w5 ⟨rfl, b5⟩
  have T5 : Hid (TabIn w w5 size (.slice a l.length cap)) := T4.out.al b5
  have X5 := hid (X4'.out.step b5)
  have Y5 := hid (Y4.out.step b5)
  clear b5 c0 c1
  have c0 : w5.cell? ⟨w.heap.size, 0, none⟩ = some (.int .i64 size) := boxc T5.out 0
  have c1 : w5.cell? ⟨w.heap.size, 1, none⟩ = some (.slice a l.length cap) := boxc T5.out 1
  have zz5 : w.heap.size < w5.heap.size := by have := T5.out.size; simp at this; omega
  have x0 := X5.out.c0
  have x1 := X5.out.c1
  have y0 := Y5.out.c0
  have y1 := Y5.out.c1
  go_wp2_with fail
  go_loopw [19, 99] (fun v19 v99 wr => ∃ k : Nat, k ≤ 16 ∧ v19 = .int .i64 (osL k l) ∧ v99 = .int .i64 k ∧ TabIn w wr size (.slice a l.length cap)) (fun _ v99 _ => 16 - (intOf v99).toNat)
  case atStart => exact ⟨0, by omega, by rw [show ((0 : Nat) : Int) = 0 from rfl, HALL.out.1], rfl, T5.out⟩
  case round =>
    obtain ⟨k, hk, rfl, rfl, hT⟩ := hrel
    have TR := hid hT
    have c0 : wr.cell? ⟨w.heap.size, 0, none⟩ = some (.int .i64 size) := boxc TR.out 0
    have c1 : wr.cell? ⟨w.heap.size, 1, none⟩ = some (.slice a l.length cap) := boxc TR.out 1
    have zr : w.heap.size < wr.heap.size := by have := TR.out.size; simp at this; omega
    clear hT
    have hbk := HBD.out (k : Int)
    by_cases hk16 : k < 16
    · have hos := osL_succ (k : Int) l
      have HOS := hid hos
      clear hos
      generalize hSk : osL (k : Int) l = Sk at *
      have HSk := hid hSk
      clear hSk
      go_wp2_with fail
      refine (HTI.out (k : Int) _ (of_alloc TR.out)).mono ?_
      rintro e w8 ⟨⟨q8, sa8, cs8, r8, er8, rfl, hs8, hml8, her8, hok8, _⟩, b8⟩
      rw [HTK.out (k : Int) (by omega) (by omega)] at her8
      subst her8
      obtain ⟨hss8, hck8, hmm8⟩ := hok8 rfl
      have hss := hss8.symm
      clear hss8
      subst hss
      have hcb := cb_own (frame := size) (o := (k : Int)) s1 (by omega) (chk_zero hck8).2.2.2 HS4.out hmm8
      have HCO := hid (fun W (h : Below w8.heap.size w8 W) => count_ok size 0 size sa8 cs8 r8 W (hs8.below h (Nat.le_refl _)) hck8 (by omega) (by omega) (by omega))
      rw [hcb] at HCO
      have T8 : Hid (TabIn w w8 size (.slice a l.length cap)) := box2 TR.out b8
      clear b8 hs8 hml8 hok8 hck8 hmm8 hcb c0 c1
      generalize hEk : osE (k : Int) l = Ek at *
      have HEk := hid hEk
      clear hEk
      have c0 : w8.cell? ⟨w.heap.size, 0, none⟩ = some (.int .i64 size) := boxc T8.out 0
      have c1 : w8.cell? ⟨w.heap.size, 1, none⟩ = some (.slice a l.length cap) := boxc T8.out 1
      have z8 : w.heap.size < w8.heap.size := by have := T8.out.size; simp at this; omega
      go_wp2_with fail
      refine (HCO.out _ (Below.alloc (Below.refl _ _) (Nat.le_refl _) _)).mono ?_
      rintro e w9 ⟨rfl, b9⟩
      have T9 : Hid (TabIn w w9 size (.slice a l.length cap)) := T8.out.al b9
      clear b9 c0 c1
      go_wp2_with fail
      go_roundw
      case rel => exact ⟨k + 1, by omega, by rw [Int.natCast_add, show ((1 : Nat) : Int) = 1 from rfl, HOS.out], by go_num, T9.out⟩
      case measure => simp [intOf]; omega
    · have hk' : k = 16 := by omega
      subst hk'
      have e16 : osL ((16 : Nat) : Int) l = tot l := HALL.out.2
      rw [e16] at hbk ⊢
      clear e16
      obtain ⟨Tt, hTt⟩ : ∃ Tt, tot l = Tt := ⟨_, rfl⟩
      rw [hTt] at hbk ⊢
      have HTt := hid hTt
      clear hTt
      go_wp2_with fail
      go_loopw [19, 128] (fun v19 v128 ws => ∃ (j : Nat) (c : Int), j ≤ l.length ∧ v19 = .int .i64 c ∧ v128 = .int .i64 j ∧ Hid (c = tot (l.drop j)) ∧ 0 ≤ c ∧ c ≤ 200000000 ∧ TabIn w ws size (.slice a l.length cap)) (fun _ v128 _ => l.length - (intOf v128).toNat)
      case atStart => exact ⟨0, Tt, by omega, rfl, rfl, by show _ = _; rw [List.drop_zero]; exact HTt.out.symm, hbk.1, hbk.2.1, TR.out⟩
      case round =>
        obtain ⟨j, c, hj, rfl, rfl, hc, hc0, hc1, hT2⟩ := hrel
        have TS := hid hT2
        have hszs := hT2.size
        simp only [World.size_alloc] at hszs
        by_cases hjl : j < l.length
        · obtain ⟨b, off, rfl, hbw, d1, d2, d3⟩ := HRW.out.get hT2 j hjl
          have hd := tot_drop l j hjl
          have hge := HEA.out (l.getD j z3) (by simp [List.getD, hjl])
          have hnn := (osL_bd (k := 0) (l := l.drop (j + 1)) (fun x hx => HEA.out x (List.mem_of_mem_drop hx)) (by omega : 0 ≤ size)).2.2.2.2.1
          clear hT2
          generalize l.getD j z3 = z at d1 d2 d3 hd hge
          obtain ⟨x1, x2, x3⟩ := z
          simp only [wfit] at d1 d2 d3 hd hge
          have hcv : c - x2 = tot (l.drop (j + 1)) := by rw [hc.out, hd]; omega
          have hcn : 0 ≤ c - x2 := by rw [hcv]; exact hnn
          have HCV := hid hcv
          clear hcv hnn hd
          go_wp2_with fail
          go_roundw
          case rel => exact ⟨j + 1, _, by omega, rfl, by go_num, HCV, hcn, by omega, TS.out.al (Below.refl _ _)⟩
          case measure => simp [intOf]; omega
        · have hc2 : c = 0 := by rw [hc.out, List.drop_of_length_le (by omega)]; rfl
          subst hc2
          clear hT2
          go_wp2_with fail
          go_ret
          exact ⟨by first | rfl | simp, of_alloc TS.out⟩
end TabC
end Go.Proofs.Ytgehdpohiphcpaa
