/- TableTurn. -/
import Derived.Test.YtgehdpohiphcpaaTabQ
import Derived.Test.YtgehdpohiphcpaaTabZ
import Derived.Test.YtgehdpohiphcpaaTabO
import Derived.Test.YtgehdpohiphcpaaTabL0
set_option linter.unusedVariables false
namespace Go.Proofs.Ytgehdpohiphcpaa
open Go.RowKit
open SpanM SpanC TabM
namespace TabC
theorem cb_full {size A : Int} {r : List Sp} (hs : 1 ≤ size) (hg : good size (-1) r = true) (h0 : 0 ≤ A) (n : Nat) (h : ∀ u, A ≤ u → u < A + n → mem r (u % size) = true) : cb size r (A + n) - cb size r A = n := by
  have key : ∀ k : Nat, k ≤ n → cb size r (A + k) - cb size r A = k := by
    intro k
    induction k with
    | zero => intro _; simp
    | succ k ih =>
      intro hk
      have i1 := ih (by omega)
      have e1 := cb_num hs hg (A.toNat + k)
      have e2 := cb_num hs hg (A.toNat + (k + 1))
      have c1 : ((A.toNat + k : Nat) : Int) = A + k := by omega
      have c2 : ((A.toNat + (k + 1) : Nat) : Int) = A + ((k + 1 : Nat) : Int) := by omega
      have e3 : num (fun u => mem r (u % size)) (A.toNat + (k + 1)) = num (fun u => mem r (u % size)) (A.toNat + k) + SpanM.one (mem r (((A.toNat + k : Nat) : Int) % size)) := rfl
      rw [e3] at e2
      rw [c1] at e1 e2
      rw [c2, h (A + k) (by omega) (by omega)] at e2
      simp only [SpanM.one] at e2
      simp at e2
      rw [Int.natCast_add] at *
      simp at *
      omega
  exact key n (Nat.le_refl _)
set_option maxRecDepth 20000 in
set_option maxHeartbeats 3200000 in
theorem tableTurn_run (size : Int) (a : Option Addr) (cap : Nat) (l : List Win) (f t : Int) (w : World) (hr : Wns w a l) :
    Calls Try.prog 9 #[.agg #[.int .i64 size, .slice a l.length cap], .int .i64 f, .int .i64 t] w fun e w' => e = .returned (.bool true) ∧ Below w.heap.size w w' := by
  have HT := hid (fun W (h : Below w.heap.size w W) => turns_says size f t a cap l W (hr.below h (Nat.le_refl _)))
  have HOW : Hid (tchk size l = 0 → ∀ u o, 0 ≤ u → u ≤ 1099511627776 → wat size l u = o → ∀ W, Below w.heap.size w W → Calls Try.prog 11 #[.agg #[.int .i64 size, .slice a l.length cap], .int .i64 u] W fun e w' => e = .returned (.tuple #[.int .i64 o, .int .i64 0]) ∧ Below W.heap.size W w') := by
    intro hk u o h1 h2 h3 W hb
    subst h3
    exact owner_ok size u a cap l W (hr.below hb (Nat.le_refl _)) hk h1 h2
  have HTI := hid (fun o W (h : Below w.heap.size w W) => times_says size o a cap l W (hr.below h (Nat.le_refl _)))
  clear hr
  go_enter Try.func9, Try.ntmps9
  go_wp2_with fail
  refine (HT.out _ (by go_grown)).mono ?_
  rintro e w1 ⟨⟨a1, n1, L, er, rfl, hw1, hm1, hP⟩, b1⟩
  have T1 : Hid (TabIn w w1 size (.slice a l.length cap)) := box1 b1
  have W1 := hid hw1
  clear b1 hw1
  go_wp2_with fail
  refine (tlives w1).mono ?_
  rintro e w2 ⟨rfl, b2⟩
  have T2 : Hid (TabIn w w2 size (.slice a l.length cap)) := box2 T1.out b2
  have W2 := hid (W1.out.below b2 (Nat.le_refl _))
  clear b2
  rcases hP with ⟨rfl, hk, h1, h2, h3, hR, hL⟩ | ⟨rfl, hne, _⟩
  · obtain ⟨s1, s2, _, s4⟩ := tchk_zero hk
    have HO := hid (HOW.out hk)
    have HRG := hid (fun u => wown_range s4 u)
    have HK := hid hk
    have HR0 := hid hR
    have hz2 : w.heap.size < w2.heap.size := by have := T2.out.size; simp at this; omega
    clear hk s4 hR
    go_wp2_with fail
    go_loopw [9, 42] (fun v9 v42 wr => ∃ (k : Nat) (A : Int) (p : Option Int), k ≤ L.length ∧ v9 = .int .i64 A ∧ v42 = .int .i64 k ∧ 0 ≤ A ∧ Hid (Rle (wat size l) p A (L.drop k) t) ∧ Hid (0 < k → p = some (L.getD (k - 1) z3).2.2) ∧ Below w2.heap.size w2 wr) (fun _ v42 _ => L.length - (intOf v42).toNat)
    case atStart => exact ⟨0, f, none, by omega, rfl, rfl, h1, by show Rle _ _ _ _ _; simpa using HR0.out, fun h => by omega, Below.refl _ _⟩
    case round =>
      obtain ⟨k, A, p, hk, rfl, rfl, hA0, hR, hp, hb⟩ := hrel
      have HB := hid hb
      have hsz := hb.size
      have T3 : Hid (TabIn w wr size (.slice a l.length cap)) := T2.out.trans (hb.mono hz2)
      have c0 : wr.cell? ⟨w.heap.size, 0, none⟩ = some (.int .i64 size) := boxc T3.out 0
      have c1 : wr.cell? ⟨w.heap.size, 1, none⟩ = some (.slice a l.length cap) := boxc T3.out 1
      have z5 : w.heap.size < wr.heap.size := by omega
      by_cases hkl : k < L.length
      · obtain ⟨b, off, rfl, hbw, d1, d2, d3⟩ := (W2.out.below hb (Nat.le_refl _)).at k hkl
        have hR' := hR.out
        rw [drop_get z3 L k hkl] at hR'
        have hprev : k = 0 ∨ ∃ j po, k = j + 1 ∧ p = some po ∧ wr.cell? ⟨b, off + j * 3 + 2, none⟩ = some (.int .i64 po) := by
          rcases Nat.eq_zero_or_pos k with h0 | h0
          · exact .inl h0
          · obtain ⟨b', off', eb, _, _, _, e3⟩ := (W2.out.below hb (Nat.le_refl _)).at (k - 1) (by omega)
            obtain ⟨rfl, rfl⟩ : b = b' ∧ off = off' := by simpa using eb
            exact .inr ⟨k - 1, _, by omega, hp.out h0, e3⟩
        have hnx : 0 < k + 1 → some (L.getD k z3).2.2 = some (L.getD (k + 1 - 1) z3).2.2 := fun _ => by rw [Nat.add_sub_cancel]
        have HNX := hid hnx
        clear hnx hb
        generalize L.getD k z3 = z at d1 d2 d3 hR' HNX
        obtain ⟨x1, x2, x3⟩ := z
        obtain ⟨r1, r2, r3, r4, r5⟩ := hR'
        simp only at d1 d2 d3 r1 r2 r3 r5 HNX
        subst r1
        have hle := r5.le
        have hin : inW (x1, x2, x3) x1 := by unfold inW; simp only; omega
        have hin2 : inW (x1, x2, x3) (x1 + x2 - 1) := by unfold inW; simp only; omega
        have o1 := r4 x1 hin
        have o2 := r4 (x1 + x2 - 1) hin2
        simp only at o1 o2
        have hrg : -1 ≤ x3 ∧ x3 ≤ 15 := by rw [← o1]; exact HRG.out _
        have HO1 := hid (HO.out x1 x3 hA0 (by omega) o1)
        have HO2 := hid (HO.out (x1 + x2 - 1) x3 (by omega) (by omega) o2)
        have HR4 := hid r4
        have HR5 := hid r5
        have R3 := hid r3
        clear r3 r4 r5 o1 o2 hin hin2
        have q0 : (x1 != x1) = false := by simp
        have q1 : (x3 != x3) = false := by simp
        have q2 : decide (x2 < 1) = false := by rw [decide_eq_false_iff_not]; omega
        go_wp2_with fail
        refine (HO1.out _ ((of_alloc T3.out).trans (Below.alloc (Below.refl _ _) (by omega) _))).mono ?_
        rintro e w4 ⟨rfl, b4⟩
        have hs4 := b4.size
        simp only [World.size_alloc] at hs4
        have T4 : Hid (TabIn w w4 size (.slice a l.length cap)) := T3.out.al b4
        have HB4 := hid (bel_al HB.out hsz b4)
        have y0 := (b4.cell (p := ⟨wr.heap.size, 0, none⟩) (by simp)).trans (World.cell?_alloc_at _ _ _ _ rfl)
        have y1 := (b4.cell (p := ⟨wr.heap.size, 1, none⟩) (by simp)).trans (World.cell?_alloc_at _ _ _ _ rfl)
        have y2 := (b4.cell (p := ⟨wr.heap.size, 2, none⟩) (by simp)).trans (World.cell?_alloc_at _ _ _ _ rfl)
        have hprev4 : k = 0 ∨ ∃ j po, k = j + 1 ∧ p = some po ∧ w4.cell? ⟨b, off + j * 3 + 2, none⟩ = some (.int .i64 po) := by
          rcases hprev with h | ⟨j, po, h, h', h''⟩
          · exact .inl h
          · exact .inr ⟨j, po, h, h', (b4.cell (by simp; omega)).trans (Lib.cell?_alloc_some _ h'')⟩
        clear hprev b4 c0 c1
        have c0 : w4.cell? ⟨w.heap.size, 0, none⟩ = some (.int .i64 size) := boxc T4.out 0
        have c1 : w4.cell? ⟨w.heap.size, 1, none⟩ = some (.slice a l.length cap) := boxc T4.out 1
        rcases hprev4 with rfl | ⟨j, po, rfl, rfl, e3⟩
        · go_wp2_with fail
          go_quiet (fail)
          go_wp2_with fail
          refine (HO2.out _ (below_drewN (of_alloc T4.out) _)).mono ?_
          rintro e w5 ⟨rfl, b5⟩
          have b5' : Below w4.heap.size w4 w5 := ⟨b5.os, b5.tape, b5.output, b5.size, b5.block⟩
          have hs5 := b5'.size
          have T5 : Hid (TabIn w w5 size (.slice a l.length cap)) := T4.out.trans (b5'.mono (by omega))
          have HB5 := hid (HB4.out.trans (b5'.mono (by omega)))
          have u0 := (b5'.cell (p := ⟨wr.heap.size, 0, none⟩) (by simp; omega)).trans y0
          have u1 := (b5'.cell (p := ⟨wr.heap.size, 1, none⟩) (by simp; omega)).trans y1
          have u2 := (b5'.cell (p := ⟨wr.heap.size, 2, none⟩) (by simp; omega)).trans y2
          have v0 : w5.cell? ⟨w.heap.size, 0, none⟩ = some (.int .i64 size) := boxc T5.out 0
          have v1 : w5.cell? ⟨w.heap.size, 1, none⟩ = some (.slice a l.length cap) := boxc T5.out 1
          clear b5 b5' y0 y1 y2 c0 c1
          by_cases hx3 : 0 ≤ x3
          · have hte : timE size x3 l = 0 := by unfold timE; rw [if_pos HK.out, if_pos ⟨hx3, hrg.2⟩]
            have HTE := hid hte
            clear hte
            go_wp2_with fail
            refine (HTI.out x3 _ (of_alloc T5.out)).mono ?_
            rintro e w6 ⟨⟨s, sa, cs, r, er, rfl, hs, hml, her, hok, _⟩, b6⟩
            rw [HTE.out] at her
            subst her
            obtain ⟨hss, hck, hmm⟩ := hok rfl
            have hss2 := hss.symm
            subst hss2
            have hcb := cb_full (size := size) (A := x1) (r := r) s1 (chk_zero hck).2.2.2 hA0 x2.toNat (fun u k1 k2 => by
              rw [hmm (u % size), decide_eq_true_eq]
              exact HR4.out u (by unfold inW; simp only; omega))
            rw [Int.toNat_of_nonneg (by omega)] at hcb
            have HCO := hid (fun W (h : Below w6.heap.size w6 W) => count_ok size x1 (x1 + x2) sa cs r W (hs.below h (Nat.le_refl _)) hck hA0 (by omega) (by omega))
            rw [hcb] at HCO
            have hs6 := b6.size
            have T6 : Hid (TabIn w w6 size (.slice a l.length cap)) := T5.out.trans (b6.mono (by omega))
            have HB6 := hid (HB5.out.trans (b6.mono (by omega)))
            have t0 := (b6.cell (p := ⟨wr.heap.size, 0, none⟩) (by simp; omega)).trans u0
            have t1 := (b6.cell (p := ⟨wr.heap.size, 1, none⟩) (by simp; omega)).trans u1
            have t2 := (b6.cell (p := ⟨wr.heap.size, 2, none⟩) (by simp; omega)).trans u2
            have hlt6 : wr.heap.size < w6.heap.size := by omega
            have q5 : (x2 != x2) = false := by simp
            clear b6 hs hml hok hck hmm hss hcb u0 u1 u2 v0 v1
            go_wp2_with fail
            refine (HCO.out _ (Below.alloc (Below.refl _ _) (Nat.le_refl _) _)).mono ?_
            rintro e w7 ⟨rfl, b7⟩
            have HB7 := hid (bel_al HB6.out (by omega) b7)
            have m1 := (b7.cell (p := ⟨wr.heap.size, 1, none⟩) (by simp; omega)).trans (Lib.cell?_alloc_some _ t1)
            clear b7 t0 t1 t2
            go_wp2_with fail
            go_roundw
            case rel => exact ⟨0 + 1, x1 + x2, some x3, by omega, rfl, by go_num, by omega, HR5, HNX, HB7.out⟩
            case measure => simp [intOf]; omega
          · go_wp2_with fail
            go_roundw
            case rel => exact ⟨0 + 1, x1 + x2, some x3, by omega, rfl, by go_num, by omega, HR5, HNX, HB5.out⟩
            case measure => simp [intOf]; omega
        · have q3 : (po == x3) = false := by
            have := R3.out
            simpa using this
          have hj : ((j + 1 : Nat) : Int) - 1 = (j : Int) := by omega
          have hj2 : j < L.length := by omega
          go_wp2_with fail
          go_quiet (fail)
          go_wp2_with fail
          refine (HO2.out _ (below_drewN (of_alloc T4.out) _)).mono ?_
          rintro e w5 ⟨rfl, b5⟩
          have b5' : Below w4.heap.size w4 w5 := ⟨b5.os, b5.tape, b5.output, b5.size, b5.block⟩
          have hs5 := b5'.size
          have T5 : Hid (TabIn w w5 size (.slice a l.length cap)) := T4.out.trans (b5'.mono (by omega))
          have HB5 := hid (HB4.out.trans (b5'.mono (by omega)))
          have u0 := (b5'.cell (p := ⟨wr.heap.size, 0, none⟩) (by simp; omega)).trans y0
          have u1 := (b5'.cell (p := ⟨wr.heap.size, 1, none⟩) (by simp; omega)).trans y1
          have u2 := (b5'.cell (p := ⟨wr.heap.size, 2, none⟩) (by simp; omega)).trans y2
          have v0 : w5.cell? ⟨w.heap.size, 0, none⟩ = some (.int .i64 size) := boxc T5.out 0
          have v1 : w5.cell? ⟨w.heap.size, 1, none⟩ = some (.slice a l.length cap) := boxc T5.out 1
          clear b5 b5' y0 y1 y2 c0 c1 e3
          by_cases hx3 : 0 ≤ x3
          · have hte : timE size x3 l = 0 := by unfold timE; rw [if_pos HK.out, if_pos ⟨hx3, hrg.2⟩]
            have HTE := hid hte
            clear hte
            go_wp2_with fail
            refine (HTI.out x3 _ (of_alloc T5.out)).mono ?_
            rintro e w6 ⟨⟨s, sa, cs, r, er, rfl, hs, hml, her, hok, _⟩, b6⟩
            rw [HTE.out] at her
            subst her
            obtain ⟨hss, hck, hmm⟩ := hok rfl
            have hss2 := hss.symm
            subst hss2
            have hcb := cb_full (size := size) (A := x1) (r := r) s1 (chk_zero hck).2.2.2 hA0 x2.toNat (fun u k1 k2 => by
              rw [hmm (u % size), decide_eq_true_eq]
              exact HR4.out u (by unfold inW; simp only; omega))
            rw [Int.toNat_of_nonneg (by omega)] at hcb
            have HCO := hid (fun W (h : Below w6.heap.size w6 W) => count_ok size x1 (x1 + x2) sa cs r W (hs.below h (Nat.le_refl _)) hck hA0 (by omega) (by omega))
            rw [hcb] at HCO
            have hs6 := b6.size
            have T6 : Hid (TabIn w w6 size (.slice a l.length cap)) := T5.out.trans (b6.mono (by omega))
            have HB6 := hid (HB5.out.trans (b6.mono (by omega)))
            have t0 := (b6.cell (p := ⟨wr.heap.size, 0, none⟩) (by simp; omega)).trans u0
            have t1 := (b6.cell (p := ⟨wr.heap.size, 1, none⟩) (by simp; omega)).trans u1
            have t2 := (b6.cell (p := ⟨wr.heap.size, 2, none⟩) (by simp; omega)).trans u2
            have hlt6 : wr.heap.size < w6.heap.size := by omega
            have q5 : (x2 != x2) = false := by simp
            clear b6 hs hml hok hck hmm hss hcb u0 u1 u2 v0 v1
            go_wp2_with fail
            refine (HCO.out _ (Below.alloc (Below.refl _ _) (Nat.le_refl _) _)).mono ?_
            rintro e w7 ⟨rfl, b7⟩
            have HB7 := hid (bel_al HB6.out (by omega) b7)
            have m1 := (b7.cell (p := ⟨wr.heap.size, 1, none⟩) (by simp; omega)).trans (Lib.cell?_alloc_some _ t1)
            clear b7 t0 t1 t2
            go_wp2_with fail
            go_roundw
            case rel => exact ⟨j + 1 + 1, x1 + x2, some x3, by omega, rfl, by go_num, by omega, HR5, HNX, HB7.out⟩
            case measure => simp [intOf]; omega
          · go_wp2_with fail
            go_roundw
            case rel => exact ⟨j + 1 + 1, x1 + x2, some x3, by omega, rfl, by go_num, by omega, HR5, HNX, HB5.out⟩
            case measure => simp [intOf]; omega
      · have hE : A = t := by
          have := hR.out
          rw [List.drop_of_length_le (by omega)] at this
          exact this
        subst hE
        have q0 : (A == A) = true := by simp
        clear hb
        go_wp2_with fail
        go_ret
        exact ⟨by first | rfl | simp, of_alloc T3.out⟩
  · have hne2 : (er != 0) = true := by simp [hne]
    go_wp2_with fail
    refine (tlives w2).mono ?_
    rintro e w3 ⟨rfl, b3⟩
    go_wp2_with fail
    go_ret
    exact ⟨by first | rfl | simp, bel_of (of_alloc T2.out) b3⟩
theorem tableTurn_walk (size : Int) (a : Option Addr) (len cap : Nat) (l : List Win) (f t : Int) (w : World) (xs : wf64 size) (h : IsWns w a len cap l) (wt : wf64 f) (wo : wf64 t) :
    Calls Try.prog 9 #[.agg #[.int .i64 size, .slice a len cap], .int .i64 f, .int .i64 t] w fun e w' => e = .returned (.bool true) ∧ Below w.heap.size w w' := by
  obtain ⟨rfl, _, _, hr, _⟩ := h
  exact tableTurn_run size a cap l f t w hr
end TabC
end Go.Proofs.Ytgehdpohiphcpaa
