/- Contract of package dutyref: NeedFrom. -/
import Derived.Test.YtepnlfnnancnfaaSupR
import Derived.Test.YtepnlfnnancnfaaSupM3
set_option linter.unusedVariables false
namespace Go.Proofs.Ytepnlfnnancnfaa
open Go.RowKit Go.Shelf
open SpanM SupM
namespace SpanC
set_option maxRecDepth 20000 in
set_option maxHeartbeats 2000000 in
theorem need_any (size t0 n : Int) (a : Option Addr) (cap : Nat) (l : List Sp) (w : World) (hr : Sps w a l) (hk : chk size l = 0) (hne : l ≠ []) (t1 : 0 ≤ t0) (t2 : t0 ≤ 1000000) (n1 : 1 ≤ n) (n2 : n ≤ 1000000) :
    Calls Try.prog 23 #[.agg #[.int .i64 size, .slice a l.length cap], .int .i64 t0, .int .i64 n] w fun e w' => e = .returned (.int .i64 (fr size l t0 n)) ∧ Below w.heap.size w w' := by
  obtain ⟨s1, s2, s3, s4⟩ := chk_zero hk
  have HC := hid (fun W (h : Below w.heap.size w W) => countOf_any size size a cap l W (hr.below h (Nat.le_refl _)) hk (by omega) (by omega))
  rw [cb_in s1 s4 (by omega) (Int.le_refl _), cnt_size s4] at HC
  have hL := tot_pos s4 hne
  have hL2 := (ah_bd s1 s4 (Nat.le_refl l.length)).2.2
  obtain ⟨a1, a2, a3, a4, a5, a6⟩ := rest_bd hL n1
  have ht1 : (n - 1).tdiv (ah l l.length) = (n - 1) / ah l l.length := Int.tdiv_eq_ediv_of_nonneg (by omega)
  have hz1 : ¬ ah l l.length = 0 := by omega
  have hz2 : (ah l l.length == 0) = false := by simp [hz1]
  have HR := hid hr
  have HG := hid s4
  have HNE := hid hne
  clear hr hk hne s4
  generalize hLe : ah l l.length = L at *
  have HL := hid hLe
  clear hLe
  go_enter Try.func23, Try.ntmps23
  go_wp2_with fail
  refine (HC.out _ (by go_grown)).mono ?_
  rintro e w1 ⟨rfl, b1⟩
  have HB1 : Hid (Below (w.heap.size + 1) (w.alloc (.cells #[.int .i64 size, .slice a l.length cap] 24)) w1) := box1 b1
  clear b1
  generalize hQ : (n - 1) / L = Q at *
  have HQ := hid hQ
  clear hQ
  go_wp2_with fail
  have hQs : 0 ≤ Q * size := Int.mul_nonneg a1 (by omega)
  have hQs2 : Q * size ≤ 1000000000000 := by
    have := Int.mul_le_mul_of_nonneg_right (show Q ≤ 1000000 by omega) (show 0 ≤ size by omega)
    omega
  have HF : Hid (∀ v, fr size l t0 (n - Q * L + Q * cnt l size) = v → fr size l t0 n = v) := by
    intro v hv
    rw [cnt_size HG.out, HL.out, show n - Q * L + Q * L = n by omega] at hv
    exact hv
  have HNL : Hid (n - Q * L ≤ cnt l size) := by show _ ≤ _; rw [cnt_size HG.out, HL.out]; exact a3
  obtain ⟨N, hN⟩ : ∃ N, N = n - Q * L := ⟨_, rfl⟩
  rw [← hN] at HF HNL a2 a3 ⊢
  have hN2 : N ≤ 1000000 := by omega
  clear hN HC ht1 hz1 hz2
  go_loopw [2, 9] (fun v2 v9 wr => ∃ r t, v2 = .int .i64 r ∧ v9 = .int .i64 t ∧ Hid (Srch size l t0 N t r) ∧ Below (w.heap.size + 1) (w.alloc (.cells #[.int .i64 size, .slice a l.length cap] 24)) wr) (fun _ v9 _ => (t0 + size - intOf v9).toNat)
  case atStart => exact ⟨N, t0, rfl, rfl, ⟨Int.le_refl _, a2, rfl⟩, HB1.out⟩
  case round =>
    obtain ⟨r0, t9, rfl, rfl, HS0, hb0⟩ := hrel
    have hB0 := hid hb0
    have c0 : wr.cell? ⟨w.heap.size, 0, none⟩ = some (.int .i64 size) := boxc hb0 0
    have c1 : wr.cell? ⟨w.heap.size, 1, none⟩ = some (.slice a l.length cap) := boxc hb0 1
    have hlt9 := Srch.lt s1 HG.out t1 HNL.out HS0.out
    obtain ⟨w9, hw9⟩ : ∃ x, x = wr := ⟨_, rfl⟩
    subst hw9
    clear hb0
    go_wp2_with fail
    clear c0 c1
    go_loopw [2, 9, 32] (fun v2 v9 v32 ws => ∃ (r t : Int) (k : Nat), v2 = .int .i64 r ∧ v9 = .int .i64 t ∧ v32 = .int .i64 k ∧ k ≤ l.length ∧ t9 ≤ t ∧ Hid (Srch size l t0 N t r) ∧ Hid (Over l k (t % size)) ∧ Below (w.heap.size + 1) (w.alloc (.cells #[.int .i64 size, .slice a l.length cap] 24)) ws) (fun _ _ v32 _ => l.length - (intOf v32).toNat)
    case atStart => exact ⟨r0, t9, 0, rfl, rfl, rfl, by omega, Int.le_refl _, HS0, (fun j hj => absurd hj (Nat.not_lt_zero _)), hB0.out⟩
    case round =>
      obtain ⟨r, t, k, rfl, rfl, rfl, hk, ht9, HSr, HOv, hb⟩ := hrel
      have hB := hid hb
      have c0 : wr.cell? ⟨w.heap.size, 0, none⟩ = some (.int .i64 size) := boxc hb 0
      have c1 : wr.cell? ⟨w.heap.size, 1, none⟩ = some (.slice a l.length cap) := boxc hb 1
      have hlt := Srch.lt s1 HG.out t1 HNL.out HSr.out
      have hr1 := HSr.out.2.1
      have htt := HSr.out.1
      have hr2 : r ≤ N := by
        have := cb_mono s1 HG.out t1 htt
        have := HSr.out.2.2
        omega
      have m1 := Int.emod_nonneg t (show size ≠ 0 by omega)
      have m2 := Int.emod_lt_of_pos t (show 0 < size by omega)
      have m3 : t % size ≤ t := by
        have m3 := Int.emod_add_mul_ediv t size
        have q0 : 0 ≤ t / size := Int.ediv_nonneg (by omega) (by omega)
        have := Int.mul_nonneg (show 0 ≤ size by omega) q0
        omega
      have ht1 : t.tmod size = t % size := Int.tmod_eq_emod_of_nonneg (by omega)
      have hz1 : ¬ size = 0 := by omega
      have hz2 : (size == 0) = false := by simp [hz1]
      have hw0 : w.heap.size < wr.heap.size := World.block_lt_of_cell? _ _ c0
      by_cases hkl : k < l.length
      · obtain ⟨bb, off, rfl, hbw, d1, d2⟩ := HR.out.get hb k hkl
        obtain ⟨g1, g2, g3, g4, g5⟩ := good_at HG.out hkl
        have K1 := hid (fun q h => HSr.out.found (q := q) s1 HG.out t1 h hkl HOv.out)
        have K2 := hid (HSr.out.next s1 HG.out t1 hkl HOv.out)
        have K3 := hid (fun m h => Over.next (m := m) HG.out hkl h)
        have hmod := hid (fun m h0 h1 => mod_of (size := size) (t := t) (m := m) h0 h1)
        generalize l.getD k (0, 0) = z at d1 d2 g3 g4 g5 K1 K2 K3
        obtain ⟨f, e⟩ := z
        simp only at d1 d2 g3 g4 g5 K1 K2 K3
        generalize hm : t % size = m at *
        have HMm := hid hm
        clear hb g1 g2 hm
        have hbw2 : bb < wr.heap.size := by omega
        have hmx : Hid (max t (t - m + f) = t - m + max m f) := by show _ = _; omega
        have hx1 : t - m ≤ max t (t - m + f) := by omega
        have hx2 : max t (t - m + f) ≤ t + size := by omega
        go_wp2_with fail
        go_quiet (fail)
        have hbq : Hid (Below (w.heap.size + 1) (w.alloc (.cells #[.int .i64 size, .slice (some ⟨bb, off, none⟩) l.length cap] 24)) ((wr.alloc (.cells #[.int .i64 f, .int .i64 e] 45)).drewN nq)) := below_drewN (Below.alloc hB.out (by omega) _) _
        have v0 : ((wr.alloc (.cells #[.int .i64 f, .int .i64 e] 45)).drewN nq).cell? ⟨w.heap.size, 0, none⟩ = some (.int .i64 size) := boxc hbq.out 0
        generalize (wr.alloc (.cells #[.int .i64 f, .int .i64 e] 45)).drewN nq = V at *
        clear c0 c1 d1 d2
        generalize max t (t - m + f) = fm at *
        by_cases hA : e ≤ m
        · have hA1 : t - m + e ≤ t := by omega
          have HO2 := hid (K3.out m hA)
          go_wp2_with fail
          go_roundw
          case rel => exact ⟨r, t, k + 1, rfl, rfl, by go_num, by omega, ht9, HSr, by rw [HMm.out]; exact HO2, hbq.out⟩
          case measure => simp [intOf]; omega
        · have hA1 : ¬ t - m + e ≤ t := by omega
          by_cases hC : r ≤ e - max m f
          · have hC1 : r ≤ t - m + e - fm := by have := hmx.out; omega
            have HFin := hid (HF.out _ (K1.out Q a1 (by omega) hC))
            go_wp2_with fail
            go_ret
            exact ⟨ret_int HFin.out.symm, of_alloc hbq.out⟩
          · have hC1 : ¬ r ≤ t - m + e - fm := by have := hmx.out; omega
            have HN2 := hid (K2.out (by omega) (by omega))
            have htm : (t - m + e - 1).tmod size = e - 1 := by
              rw [Int.tmod_eq_emod_of_nonneg (by omega), show t - m + e - 1 = t - m + (e - 1) by omega]
              exact hmod.out (e - 1) (by omega) (by omega)
            have hr3 : Hid (r - (t - m + e - fm) = r - (e - max m f)) := by show _ = _; have := hmx.out; omega
            by_cases hE : e = size
            · have hbe : (e - 1 == size - 1) = true := by simp [hE]
              have HE := hid hE
              clear hE
              go_wp2_with fail
              go_quiet (fail)
              have hbq2 := hid (below_drewN hbq.out nq)
              have v1 : (V.drewN nq).cell? ⟨w.heap.size, 0, none⟩ = some (.int .i64 size) := v0
              generalize V.drewN nq = V2 at *
              go_wp2_with fail
              go_quiet (fail)
              go_wp2_with fail
              go_roundw
              case rel =>
                refine ⟨_, t - m + e, rfl, ?_, ?_, below_drewN hbq2.out _⟩
                · have := HE.out
                  first | rfl | (congr 1; omega)
                · rw [hr3.out]; exact HN2
              case measure => have := HE.out; simp [intOf]; omega
            · have hbe : (e - 1 == size - 1) = false := by simp; omega
              have HO3 := hid (K3.out e (Int.le_refl _))
              have hme := hid (hmod.out e (by omega) (by omega))
              go_wp2_with fail
              go_quiet (fail)
              go_wp2_with fail
              go_roundw
              case rel =>
                refine ⟨_, t - m + e, k + 1, rfl, rfl, by go_num, by omega, by omega, ?_, ?_, below_drewN hbq.out _⟩
                · rw [hr3.out]; exact HN2
                · rw [hme.out]; exact HO3
              case measure => simp [intOf]; omega
      · obtain rfl : k = l.length := by omega
        have HRd := hid (HSr.out.round s1 HG.out HOv.out)
        clear hb
        generalize hm : t % size = m at *
        clear hm
        go_wp2_with fail
        go_quiet (fail)
        go_wp2_with fail
        go_roundw
        case rel => exact ⟨r, t - m + size, rfl, rfl, HRd, below_drewN hB.out _⟩
        case measure => simp [intOf]; omega
end SpanC
end Go.Proofs.Ytepnlfnnancnfaa
