/- Contracts of package supply: Least, Most. -/
import Derived.Test.YtpeapmefnabhfaaSupE
set_option linter.unusedVariables false
namespace Go.Proofs.Ytpeapmefnabhfaa
open Go.RowKit Go.Shelf Go.Lib Go.Sort
open SpanM SupM
namespace SpanC
/-- the memory of a call that keeps a tally in block B -/
structure LBox (w W : World) (B : Nat) (size : Int) (a : Option Addr) (cap g c m : Nat) (l : List Sp) : Prop where
  be : Below w.heap.size w W
  b0 : W.cell? ⟨B, 0, none⟩ = some (.int .i64 size)
  b1 : W.cell? ⟨B, 1, none⟩ = some (.slice a l.length cap)
  b2 : W.cell? ⟨B, 2, none⟩ = some (.slice (some ⟨g, 0, none⟩) m c)
  ta : Tal W g l
theorem LBox.start {w W : World} {size : Int} {a : Option Addr} {cap g c m : Nat} {l : List Sp} (hb : Below w.heap.size w W) (ht : Tal W g l) : LBox w (W.alloc (.cells #[.int .i64 size, .slice a l.length cap, .slice (some ⟨g, 0, none⟩) m c] 64)) W.heap.size size a cap g c m l where
  be := hb.alloc hb.size _
  b0 := World.cell?_alloc_at _ _ _ _ rfl
  b1 := World.cell?_alloc_at _ _ _ _ rfl
  b2 := World.cell?_alloc_at _ _ _ _ rfl
  ta := ht.below ((Below.refl _ _).alloc (Nat.le_refl _) _)
theorem LBox.step {w W W' : World} {B : Nat} {size : Int} {a : Option Addr} {cap g c m : Nat} {l : List Sp} (h : LBox w W B size a cap g c m l) (hb : Below W.heap.size W W') : LBox w W' B size a cap g c m l where
  be := bel_of h.be hb
  b0 := (hb.cell (World.block_lt_of_cell? _ _ h.b0)).trans h.b0
  b1 := (hb.cell (World.block_lt_of_cell? _ _ h.b1)).trans h.b1
  b2 := (hb.cell (World.block_lt_of_cell? _ _ h.b2)).trans h.b2
  ta := h.ta.below hb
def leastE (size : Int) (l : List Sp) (n : Int) : Int := sE size l n 549755813888
def leastV (size : Int) (l : List Sp) (n : Int) : Int := if leastE size l n = 0 then lst size l n else 0
def mostV (size : Int) (l : List Sp) (n : Int) : Int := if leastE size l n = 0 then mst size l n else 0
theorem least_err (size n : Int) (a : Option Addr) (cap : Nat) (l : List Sp) (w : World) (hr : Sps w a l) (he : leastE size l n ≠ 0) :
    Calls Try.prog 26 #[.agg #[.int .i64 size, .slice a l.length cap], .int .i64 n] w fun e w' => e = .returned (.tuple #[.int .i64 0, .int .i64 (leastE size l n)]) ∧ Below w.heap.size w w' := by
  have HC := hid (fun W (h : Below w.heap.size w W) => scheck_any size n 549755813888 a cap l W (hr.below h (Nat.le_refl _)))
  unfold leastE at *
  have hne : (sE size l n 549755813888 != 0) = true := by simp [he]
  clear hr he
  generalize sE size l n 549755813888 = E at *
  go_enter Try.func26, Try.ntmps26
  go_wp2_with fail
  refine (HC.out _ (by go_grown)).mono ?_
  rintro e w1 ⟨rfl, b1⟩
  go_wp2_with fail
  go_ret2
  exact ⟨rfl, bel_of (by go_grown) b1⟩
set_option maxHeartbeats 1000000 in
theorem least_ok (size n : Int) (a : Option Addr) (cap : Nat) (l : List Sp) (w : World) (hr : Sps w a l) (he : leastE size l n = 0) :
    Calls Try.prog 26 #[.agg #[.int .i64 size, .slice a l.length cap], .int .i64 n] w fun e w' => e = .returned (.tuple #[.int .i64 (lst size l n), .int .i64 0]) ∧ Below w.heap.size w w' := by
  have HC := hid (fun W (h : Below w.heap.size w W) => scheck_any size n 549755813888 a cap l W (hr.below h (Nat.le_refl _)))
  unfold leastE at *
  rw [he] at HC
  obtain ⟨hk, n1, n2⟩ := sE_zero he
  obtain ⟨s1, s2, s3, s4⟩ := chk_zero hk
  have HT := hid (fun W (h : Below w.heap.size w W) => tally_any size a cap l W (hr.below h (Nat.le_refl _)) hk)
  go_enter Try.func26, Try.ntmps26
  go_wp2_with fail
  refine (HC.out _ (by go_grown)).mono ?_
  rintro e w1 ⟨rfl, b1⟩
  have HB1 : Hid (Below (w.heap.size + 1) (w.alloc (.cells #[.int .i64 size, .slice a l.length cap] 38)) w1) := box1 b1
  clear b1
  have c0 : w1.cell? ⟨w.heap.size, 0, none⟩ = some (.int .i64 size) := boxc HB1.out 0
  have c1 : w1.cell? ⟨w.heap.size, 1, none⟩ = some (.slice a l.length cap) := boxc HB1.out 1
  go_wp2_with fail
  refine (HT.out _ (of_alloc HB1.out)).mono ?_
  rintro e w2 ⟨⟨g, c, rfl, ht⟩, b2⟩
  have hb2 := bel_of (of_alloc HB1.out) b2
  obtain ⟨m, hm⟩ : ∃ m, m = l.length + 1 := ⟨_, rfl⟩
  have HM := hid hm
  have HBl := hid (fun V (h : Below w.heap.size w V) (h2 : Tal V g l) t (h3 : 0 ≤ t) (h4 : t ≤ 1099512000000) => below_any size t a cap g c l V (hr.below h (Nat.le_refl _)) hk h2 h3 h4)
  unfold tal at HBl
  rw [← hm] at HBl ⊢
  have LB := hid (LBox.start (size := size) (a := a) (cap := cap) (c := c) (m := m) hb2 ht)
  have HR := hid hr
  have HG := hid s4
  clear hb2 b2 ht hm hr hk he c0 c1 HT HC
  go_wp2_with fail
  refine (HBl.out _ LB.out.be LB.out.ta n n1 (by omega)).mono ?_
  rintro e w3 ⟨rfl, b3⟩
  have LB3 := hid (LB.out.step b3)
  obtain ⟨B, hB⟩ : ∃ B, B = w2.heap.size := ⟨_, rfl⟩
  rw [← hB] at LB3 ⊢
  clear b3 LB hB HB1
  obtain ⟨_, x0, x1, x2, _⟩ := LB3.out
  have HI := hid (show lmin (fun x => D size l n x.2) (D size l n 0) (l.take 0) = cb size l n by simp [lmin, D, cb_zero HG.out])
  have hcn := cb_pos s1 HG.out n1
  generalize cb size l n = C0 at *
  go_wp2_with fail
  clear x0 x1 x2
  go_loopw [8, 25] (fun v8 v25 wr => ∃ k : Nat, k ≤ l.length ∧ v25 = .int .i64 k ∧ (∃ M, v8 = .int .i64 M ∧ Hid (lmin (fun x => D size l n x.2) (D size l n 0) (l.take k) = M)) ∧ LBox w wr B size a cap g c m l) (fun _ v25 _ => l.length - (intOf v25).toNat)
  case atStart => exact ⟨0, by omega, rfl, ⟨_, rfl, HI⟩, LB3.out⟩
  case round =>
    obtain ⟨k, hk, rfl, ⟨M, rfl, HMn⟩, lb⟩ := hrel
    have LB := hid lb
    by_cases hlt : k < l.length
    · obtain ⟨b, off, rfl, hbw, d1, d2⟩ := (HR.out.below lb.be (Nat.le_refl _)).at k hlt
      obtain ⟨_, _, g3, g4, g5⟩ := good_at HG.out hlt
      obtain ⟨q1, q2⟩ := cb_end s1 HG.out hlt
      have hd := take_snoc l k hlt
      have y0 := lb.ta (k + 1) (by omega)
      generalize hz : l.getD k (0, 0) = z at d1 d2 g3 g4 g5 q1 q2 hd
      obtain ⟨f, e⟩ := z
      simp only at d1 d2 g3 g4 g5 q1 q2
      have hbd := ah_bd s1 HG.out (show k + 1 ≤ l.length by omega)
      have hcb := cb_pos s1 HG.out (show 0 ≤ e + n by omega)
      have HN := hid (show lmin (fun x => D size l n x.2) (D size l n 0) (l.take (k + 1)) = min M (cb size l (e + n) - ah l (k + 1)) by
        rw [hd, lmin_snoc, HMn.out, ← q1]; rfl)
      have HBx := hid (fun V (h : Below w.heap.size w V) (h2 : Tal V g l) => HBl.out V h h2 (e + n) (by omega) (by omega))
      obtain ⟨K1, hK1⟩ : ∃ K1 : Nat, (k : Int) + 1 = (K1 : Int) := ⟨k + 1, by omega⟩
      have hK2 : (K1 : Int) < (m : Int) := by have := HM.out; omega
      rw [show k + 1 = K1 by omega] at y0
      generalize cb size l (e + n) = C1 at *
      generalize hah : ah l (k + 1) = A1 at *
      rw [show K1 = k + 1 by omega, hah, show k + 1 = K1 by omega] at y0
      obtain ⟨_, x0, x1, x2, _⟩ := lb
      clear hah hd hz q1 q2 HMn
      obtain ⟨r1, r2, r3⟩ := hbd
      obtain ⟨r4, r5⟩ := hcb
      go_wp2_with fail
      have hal : Below wr.heap.size wr (wr.alloc (.cells #[.int .i64 f, .int .i64 e] 55)) := (Below.refl _ _).alloc (Nat.le_refl _) _
      have z0 : (wr.alloc (.cells #[.int .i64 f, .int .i64 e] 55)).cell? ⟨wr.heap.size, 0, none⟩ = some (.int .i64 f) := World.cell?_alloc_at _ _ _ _ rfl
      have z1 : (wr.alloc (.cells #[.int .i64 f, .int .i64 e] 55)).cell? ⟨wr.heap.size, 1, none⟩ = some (.int .i64 e) := World.cell?_alloc_at _ _ _ _ rfl
      have y1 := (hal.cell (World.block_lt_of_cell? _ _ y0)).trans y0
      have LV := hid (LB.out.step hal)
      obtain ⟨xB, hxB⟩ : ∃ xB, xB = wr.heap.size := ⟨_, rfl⟩
      rw [← hxB] at z0 z1 ⊢
      generalize wr.alloc (.cells #[.int .i64 f, .int .i64 e] 55) = V0 at *
      clear hal y0 x0 x1 x2 hxB
      have p0 := BelowOf.cell LV.out.b0
      have p1 := BelowOf.cell LV.out.b1
      have p2 := BelowOf.cell LV.out.b2
      have p3 := BelowOf.cell z0
      have p4 := BelowOf.cell z1
      have p5 := BelowOf.cell y1
      clear z0 z1 y1
      refine wp_region_quiet_below (by kernel_rfl) (by kernel_rfl) ?_
      repeat (first | go_big_quiet_step (first | (go_at_call 39; rename_i pp; exact Calls.below_of pp (HBx.out _ (LV.out.step pp.hb).be (LV.out.step pp.hb).ta))) | quiet_step (first | (go_at_call 39; rename_i pp; exact Calls.below_of pp (HBx.out _ (LV.out.step pp.hb).be (LV.out.step pp.hb).ta))))
      refine wpQuiet_nil ?_
      rintro w5 ⟨pp, hpp⟩
      have b5 := pp.hb
      rw [← hpp] at b5
      have L5 := hid (LV.out.step b5)
      clear hpp pp p0 p1 p2 p3 p4 p5 b5
      go_wp2_with fail
      go_roundw
      case rel => exact ⟨k + 1, by omega, by go_num, ⟨_, rfl, by first | exact HN | (rw [HN.out]; show _ = _; omega)⟩, L5.out⟩
      case measure => simp [intOf]; omega
    · obtain rfl : k = l.length := by omega
      rw [List.take_length] at HMn
      have HF : Hid (lst size l n = M) := HMn.out
      go_wp2_with fail
      go_ret2
      rw [HF.out]
      exact ⟨rfl, LB.out.be⟩
end SpanC
end Go.Proofs.Ytpeapmefnabhfaa
