/- Contracts of package supply: Wait. -/
import Derived.Test.YtnbfadfhpegddaaSupF2
set_option linter.unusedVariables false
namespace Go.Proofs.Ytnbfadfhpegddaa
open Go.RowKit Go.Shelf Go.Lib Go.Sort
open SpanM SupM
namespace SpanC
theorem wait_err (size n : Int) (a : Option Addr) (cap : Nat) (l : List Sp) (w : World) (hr : Sps w a l) (he : sE size l n 1000000 ≠ 0) :
    Calls Try.prog 58 #[.agg #[.int .i64 size, .slice a l.length cap], .int .i64 n] w fun e w' => e = .returned (.tuple #[.int .i64 0, .int .i64 (sE size l n 1000000)]) ∧ Below w.heap.size w w' := by
  have HC := hid (fun W (h : Below w.heap.size w W) => scheck_any size n 1000000 a cap l W (hr.below h (Nat.le_refl _)))
  have hne : (sE size l n 1000000 != 0) = true := by simp [he]
  clear hr he
  generalize sE size l n 1000000 = E at *
  go_enter Try.func58, Try.ntmps58
  go_wp2_with fail
  refine (HC.out _ (by go_grown)).mono ?_
  rintro e w1 ⟨rfl, b1⟩
  go_wp2_with fail
  go_ret2
  exact ⟨rfl, bel_of (by go_grown) b1⟩
theorem wait_zero (size : Int) (a : Option Addr) (cap : Nat) (l : List Sp) (w : World) (hr : Sps w a l) (he : sE size l 0 1000000 = 0) :
    Calls Try.prog 58 #[.agg #[.int .i64 size, .slice a l.length cap], .int .i64 0] w fun e w' => e = .returned (.tuple #[.int .i64 0, .int .i64 0]) ∧ Below w.heap.size w w' := by
  have HC := hid (fun W (h : Below w.heap.size w W) => scheck_any size 0 1000000 a cap l W (hr.below h (Nat.le_refl _)))
  rw [he] at HC
  clear hr he
  go_enter Try.func58, Try.ntmps58
  go_wp2_with fail
  refine (HC.out _ (by go_grown)).mono ?_
  rintro e w1 ⟨rfl, b1⟩
  go_wp2_with fail
  go_ret2
  exact ⟨rfl, bel_of (by go_grown) b1⟩
theorem wait_none (size n : Int) (a : Option Addr) (cap : Nat) (w : World) (he : sE size [] n 1000000 = 0) (hn : n ≠ 0) :
    Calls Try.prog 58 #[.agg #[.int .i64 size, .slice a 0 cap], .int .i64 n] w fun e w' => e = .returned (.tuple #[.int .i64 0, .int .i64 7]) ∧ Below w.heap.size w w' := by
  have HC := hid (fun W (h : Below w.heap.size w W) => scheck_any size n 1000000 a cap [] W (.inl rfl))
  rw [he] at HC
  simp only [List.length_nil] at HC
  have q0 : (n == 0) = false := by simp [hn]
  clear he hn
  go_enter Try.func58, Try.ntmps58
  go_wp2_with fail
  refine (HC.out _ (by go_grown)).mono ?_
  rintro e w1 ⟨rfl, b1⟩
  have HB1 : Hid (Below (w.heap.size + 1) (w.alloc (.cells #[.int .i64 size, .slice a 0 cap] 26)) w1) := box1 b1
  clear b1
  have c1 : w1.cell? ⟨w.heap.size, 1, none⟩ = some (.slice a 0 cap) := boxc HB1.out 1
  go_wp2_with fail
  go_ret2
  exact ⟨rfl, of_alloc HB1.out⟩
set_option maxHeartbeats 1000000 in
theorem wait_ok (size n : Int) (a : Option Addr) (cap : Nat) (l : List Sp) (w : World) (hr : Sps w a l) (he : sE size l n 1000000 = 0) (hne : l ≠ []) (hnz : n ≠ 0) :
    Calls Try.prog 58 #[.agg #[.int .i64 size, .slice a l.length cap], .int .i64 n] w fun e w' => e = .returned (.tuple #[.int .i64 (wt size l n), .int .i64 0]) ∧ Below w.heap.size w w' := by
  have HC := hid (fun W (h : Below w.heap.size w W) => scheck_any size n 1000000 a cap l W (hr.below h (Nat.le_refl _)))
  rw [he] at HC
  obtain ⟨hk, n1, n2⟩ := sE_zero he
  obtain ⟨s1, s2, s3, s4⟩ := chk_zero hk
  have q0 : (n == 0) = false := by simp [hnz]
  have hpos : 0 < l.length := List.length_pos_iff.2 hne
  have q00 : ((l.length : Int) == 0) = false := by rw [beq_eq_false_iff_ne]; omega
  have HT := hid (fun W (h : Below w.heap.size w W) => tally_any size a cap l W (hr.below h (Nat.le_refl _)) hk)
  go_enter Try.func58, Try.ntmps58
  go_wp2_with fail
  refine (HC.out _ (by go_grown)).mono ?_
  rintro e w1 ⟨rfl, b1⟩
  have HB1 : Hid (Below (w.heap.size + 1) (w.alloc (.cells #[.int .i64 size, .slice a l.length cap] 26)) w1) := box1 b1
  clear b1
  have c0 : w1.cell? ⟨w.heap.size, 0, none⟩ = some (.int .i64 size) := boxc HB1.out 0
  have c1 : w1.cell? ⟨w.heap.size, 1, none⟩ = some (.slice a l.length cap) := boxc HB1.out 1
  go_wp2_with fail
  refine (HT.out _ (of_alloc HB1.out)).mono ?_
  rintro e w2 ⟨⟨g, c, rfl, ht⟩, b2⟩
  have hb2 := bel_of (of_alloc HB1.out) b2
  obtain ⟨m, hm⟩ : ∃ m, m = l.length + 1 := ⟨_, rfl⟩
  have HM := hid hm
  have HBl := hid (fun V (h : Below w.heap.size w V) (h2 : Tal V g l) t (h3 : 1 ≤ t) (h4 : t ≤ 4000000) => end_any size t a cap g c l V (hr.below h (Nat.le_refl _)) hk h2 hne h3 h4)
  unfold tal at HBl
  rw [← hm] at HBl ⊢
  have LB := hid (LBox.start (size := size) (a := a) (cap := cap) (c := c) (m := m) hb2 ht)
  have HR := hid hr
  have HG := hid s4
  have HNE := hid hne
  clear hb2 b2 ht hm hr hk he c0 c1 HT HC hne
  have LB3 := LB
  go_wp2_with fail
  generalize w2.heap.size = B at *
  generalize w2.alloc (.cells #[.int .i64 size, .slice a l.length cap, .slice (some ⟨g, 0, none⟩) m c] 84) = w3 at *
  clear LB HB1
  obtain ⟨_, x0, x1, x2, _⟩ := LB3.out
  have HI := hid (show lmax (fun x => fr size l x.2 n) 0 (l.take 0) = 0 by simp [lmax])
  clear x0 x1 x2
  go_loopw [8, 28] (fun v8 v22 wr => ∃ k : Nat, k ≤ l.length ∧ v22 = .int .i64 k ∧ (∃ M, v8 = .int .i64 M ∧ Hid (lmax (fun x => fr size l x.2 n) 0 (l.take k) = M)) ∧ LBox w wr B size a cap g c m l) (fun _ v22 _ => l.length - (intOf v22).toNat)
  case atStart => exact ⟨0, by omega, rfl, ⟨_, rfl, HI⟩, LB3.out⟩
  case round =>
    obtain ⟨k, hk, rfl, ⟨M, rfl, HMn⟩, lb⟩ := hrel
    have LB := hid lb
    by_cases hlt : k < l.length
    · obtain ⟨b, off, rfl, hbw, d1, d2⟩ := (HR.out.below lb.be (Nat.le_refl _)).at k hlt
      obtain ⟨_, _, g3, g4, g5⟩ := good_at HG.out hlt
      obtain ⟨q1, q2⟩ := cb_end s1 HG.out hlt
      have hd := take_snoc l k hlt
      have y0 := lb.ta (k + 1) (by omega)
      generalize hz : l.getD k (0, 0) = z at d1 d2 g3 g4 g5 q1 q2 hd
      obtain ⟨f, e⟩ := z
      simp only at d1 d2 g3 g4 g5 q1 q2
      have hbd := ah_bd s1 HG.out (show k + 1 ≤ l.length by omega)
      have HN := hid (show lmax (fun x => fr size l x.2 n) 0 (l.take (k + 1)) = max M (endT size l (ah l (k + 1) + n) - e) by
        rw [hd, lmax_snoc, HMn.out, ← q1]; rfl)
      have hcb := endT_le s1 HG.out HNE.out (show 1 ≤ ah l (k + 1) + n by omega)
      have hcb2 : endT size l (ah l (k + 1) + n) ≤ 3000000000000 := by
        have := Int.mul_le_mul_of_nonneg_left s2 (show 0 ≤ ah l (k + 1) + n by omega)
        omega
      have HBx := hid (fun V (h : Below w.heap.size w V) (h2 : Tal V g l) => HBl.out V h h2 (ah l (k + 1) + n) (by omega) (by omega))
      obtain ⟨K1, hK1⟩ : ∃ K1 : Nat, (k : Int) + 1 = (K1 : Int) := ⟨k + 1, by omega⟩
      have hK2 : (K1 : Int) < (m : Int) := by have := HM.out; omega
      rw [show k + 1 = K1 by omega] at y0
      generalize endT size l (ah l (k + 1) + n) = C1 at *
      generalize hah : ah l (k + 1) = A1 at *
      rw [show K1 = k + 1 by omega, hah, show k + 1 = K1 by omega] at y0
      obtain ⟨_, x0, x1, x2, _⟩ := lb
      clear hah hd hz q1 q2 HMn
      obtain ⟨r1, r2, r3⟩ := hbd
      obtain ⟨r4, r5⟩ := hcb
      clear r5
      go_wp2_with fail
      have hal : Below wr.heap.size wr (wr.alloc (.cells #[.int .i64 f, .int .i64 e] 58)) := (Below.refl _ _).alloc (Nat.le_refl _) _
      have z0 : (wr.alloc (.cells #[.int .i64 f, .int .i64 e] 58)).cell? ⟨wr.heap.size, 0, none⟩ = some (.int .i64 f) := World.cell?_alloc_at _ _ _ _ rfl
      have z1 : (wr.alloc (.cells #[.int .i64 f, .int .i64 e] 58)).cell? ⟨wr.heap.size, 1, none⟩ = some (.int .i64 e) := World.cell?_alloc_at _ _ _ _ rfl
      have y1 := (hal.cell (World.block_lt_of_cell? _ _ y0)).trans y0
      have LV := hid (LB.out.step hal)
      obtain ⟨xB, hxB⟩ : ∃ xB, xB = wr.heap.size := ⟨_, rfl⟩
      rw [← hxB] at z0 z1 ⊢
      generalize wr.alloc (.cells #[.int .i64 f, .int .i64 e] 58) = V0 at *
      clear hal y0 x0 x1 x2 hxB
      have p0 := BelowOf.cell LV.out.b0
      have p1 := BelowOf.cell LV.out.b1
      have p2 := BelowOf.cell LV.out.b2
      have p3 := BelowOf.cell z0
      have p4 := BelowOf.cell z1
      have p5 := BelowOf.cell y1
      clear z0 z1 y1
      refine wp_region_quiet_below (by kernel_rfl) (by kernel_rfl) ?_
      repeat (first | go_big_quiet_step (first | (go_at_call 67; rename_i pp; exact Calls.below_of pp (HBx.out _ (LV.out.step pp.hb).be (LV.out.step pp.hb).ta))) | quiet_step (first | (go_at_call 67; rename_i pp; exact Calls.below_of pp (HBx.out _ (LV.out.step pp.hb).be (LV.out.step pp.hb).ta))))
      refine wpQuiet_nil ?_
      rintro w5 ⟨pp, hpp⟩
      have b5 := pp.hb
      rw [← hpp] at b5
      have L5 := hid (LV.out.step b5)
      clear hpp pp p0 p1 p2 p3 p4 p5 b5
      go_wp2_with fail
      go_roundw
      case rel => exact ⟨k + 1, by omega, by go_num, ⟨_, rfl, by first | exact HN | (rw [HN.out]; show _ = _; omega)⟩, L5.out⟩
      case measure => simp [intOf]; omega
    · obtain rfl : k = l.length := by omega
      rw [List.take_length] at HMn
      have HF : Hid (wt size l n = M) := HMn.out
      go_wp2_with fail
      go_ret2
      rw [HF.out]
      exact ⟨rfl, LB.out.be⟩
end SpanC
end Go.Proofs.Ytnbfadfhpegddaa
