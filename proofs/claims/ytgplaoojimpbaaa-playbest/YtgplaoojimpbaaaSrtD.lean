/- Contracts: symMergeCmpFunc of jobs (written by gen_srt.py). -/
import Derived.Test.YtgplaoojimpbaaaSrtC
set_option linter.unusedVariables false
namespace Go.Proofs.Ytgplaoojimpbaaa
open Go.RowKit hiding tok
open Go.Shelf Go.Sort
open SpanM SpanC PlayM
namespace PlayC
open RowG
set_option maxRecDepth 20000 in
set_option maxHeartbeats 3200000 in
theorem merge_high (g n cap B a m b : Nat) (l : List Jb) (w : World) (h : OwnJ w B (vS g n cap) l) (hn : n = l.length) (ham : a + 1 < m) (hmb : b = m + 1) (hb : b ≤ l.length) (hl : l.length ≤ 4000) (hs : Srt l a m) :
    Calls Try.prog 67 #[vS g n cap, .int .i64 a, .int .i64 m, .int .i64 b, vC] w (Merged g n cap B a b l w) := by
  obtain ⟨K, hK⟩ : ∃ K : Nat, K = 7 := ⟨7, rfl⟩
  have z72 := sizeK K hK
  have a72 := Try.isAgg72
  have mixed := mixd
  have HK := hid hK
  have HO := hid h
  have HN := hid hn
  have HMB := hid hmb
  have HS := hid hs
  have hnl : n ≤ 4000 := by omega
  have hbn : b ≤ n := by omega
  have hmn : m < n := by omega
  have hm1 : ((m : Int) - (a : Int) == 1) = false := by simp; omega
  have hwm : IntKind.i64.wrap ((m : Int) - (a : Int)) = (m : Int) - (a : Int) := by rw [IntKind.wrap_i64]; omega
  have hm2 : ((b : Int) - (m : Int) == 1) = true := by simp; omega
  have hwb : IntKind.i64.wrap ((b : Int) - (m : Int)) = (b : Int) - (m : Int) := by rw [IntKind.wrap_i64]; omega
  have ham2 : a < m := by omega
  have hmb2 : m < b := by omega
  clear h hK hn hb hl hs hmb
  go_enter Try.func67, Try.ntmps67
  go_wp2_with fail
  go_loopw [14, 15] (fun vi vj wr => ∃ (i j : Nat), a ≤ i ∧ i ≤ j ∧ j ≤ m ∧ vi = .int .i64 i ∧ vj = .int .i64 j ∧ OwnJ wr B (vS g n cap) l ∧ w.grownBy wr (some g) ∧ Hid (a < i → sc l (i - 1) ≤ sc l m) ∧ Hid (j < m → sc l m ≤ sc l j)) (fun vi vj _ => (intOf vj).toNat - (intOf vi).toNat)
  case atStart => exact ⟨a, m, by omega, by omega, by omega, by go_num, by go_num, HO.out, grown_refl _ _, (fun h => absurd h (Nat.lt_irrefl _) : a < a → _), (fun h => absurd h (Nat.lt_irrefl _) : m < m → _)⟩
  case round =>
    obtain ⟨i, j, hi, hij, hj, rfl, rfl, ho, hg, H1, H2⟩ := hrel
    have HO1 := hid ho
    have HG1 := hid hg
    clear ho hg
    by_cases hlt : i < j
    · obtain ⟨q, hq⟩ : ∃ q, q = (i + j) / 2 := ⟨_, rfl⟩
      have eq1 : ((i : Int) + (j : Int)) / 2 = (q : Int) := by omega
      have hq1 : i ≤ q := by omega
      have hq2 : q < j := by omega
      have hqn : (q : Int) < (n : Int) := by omega
      have han : (m : Int) < (n : Int) := by omega
      clear hq
      obtain ⟨cx, cy, c, hcx, hcy, HCI, l1, l2, hcm⟩ := cmp_ready K HK.out HO1.out m q (by have := HN.out; omega) (by have := HN.out; omega)
      by_cases hlv : c < 0
      · go_wp2_with fail
        go_quiet_grown (first | (go_at_call 35; refine Calls.grown_of (hcm _ _)))
        go_wp2_with fail
        have HO3 := hid (own_grow HO1.out nq osq)
        have HG3 := hid (grown_grow wr nq osq (some g))
        generalize grow (wr.drewN nq) osq = w3 at *
        clear l1 l2 hcm
        go_roundw
        case rel =>
          refine ⟨i, q, by omega, by omega, by omega, rfl, by go_num, HO3.out, HG1.out.trans HG3.out, H1, (fun _ => ?_ : q < m → sc l m ≤ sc l q)⟩
          have := HCI.out.1 hlv; omega
        case measure => simp [intOf]; omega
      · have HLV := hid (fun h : c < 0 => hlv h)
        have hlv2 : decide (c < 0) = false := decide_eq_false hlv
        have hlv3 : (!decide (c < 0)) = true := by rw [hlv2]; rfl
        go_wp2_with fail
        go_quiet_grown (first | (go_at_call 35; refine Calls.grown_of (hcm _ _)))
        go_wp2_with fail
        have HO3 := hid (own_grow HO1.out nq osq)
        have HG3 := hid (grown_grow wr nq osq (some g))
        generalize grow (wr.drewN nq) osq = w3 at *
        clear l1 l2 hcm
        go_roundw
        case rel =>
          refine ⟨q + 1, j, by omega, by omega, by omega, by go_num, rfl, HO3.out, HG1.out.trans HG3.out, (fun _ => ?_ : a < q + 1 → sc l (q + 1 - 1) ≤ sc l m), H2⟩
          have h6 : ¬ sc l m < sc l q := fun h => HLV.out (HCI.out.2 h)
          rw [Nat.add_sub_cancel]; omega
        case measure => simp [intOf]; omega
    · obtain rfl : i = j := by omega
      go_wp2_with fail
      obtain ⟨w0, hw0⟩ : ∃ x, x = wr := ⟨_, rfl⟩
      subst hw0
      go_loopw [17] (fun vk wr => ∃ (k : Nat) (lk : List Jb), i ≤ k ∧ k ≤ m ∧ vk = .int .i64 k ∧ OwnJ wr B (vS g n cap) lk ∧ w.grownBy wr (some g) ∧ Rg a b l lk ∧ (∀ x, gt lk x = rotF (gt l) k m (m + 1) x)) (fun vk _ => (intOf vk).toNat)
      case atStart => exact ⟨m, l, by omega, by omega, rfl, HO1.out, HG1.out, Rg.refl _ _ _, fun x => (rot_id1 _ _ _ _).symm⟩
      case round =>
        obtain ⟨k, lk, hik, hkm, rfl, ho, hg, hr, hx⟩ := hrel
        have HO2 := hid ho
        have HG2 := hid hg
        have HR2 := hid hr
        have HX2 := hid hx
        have hlk : lk.length = n := by rw [hr.len, HN.out]
        clear ho hg hr hx
        by_cases hk2 : i < k
        · obtain ⟨p, rfl⟩ : ∃ p, k = p + 1 := ⟨k - 1, by omega⟩
          have hk3 : (i : Int) < (p : Int) + 1 := by omega
          obtain ⟨dx, dy, hdx, hdy, l1, l2, s1, s2, HSW⟩ := sw_ready K HK.out HO2.out (p + 1) p (by omega) (by omega)
          have i1 : (0 : Int) ≤ (p : Int) + 1 := by omega
          have i2 : (p : Int) + 1 < (n : Int) := by omega
          have i3 : (p : Int) < (n : Int) := by omega
          have e0 : ((p : Int) + 1).toNat = p + 1 := by omega
          have hwp : IntKind.i64.wrap (p : Int) = (p : Int) := by rw [IntKind.wrap_i64]; omega
          have HLK := hid hlk
          clear hlk
          go_wp2_with fail
          go_big_region_o
          all_goals go_wp2
          go_roundw
          case rel =>
            have h5 := HLK.out
            refine ⟨p, sw lk (p + 1) p, by omega, by omega, by go_num, HSW.out.1, HG2.out.trans HSW.out.2, HR2.out.trans (Rg.sw (by omega) (by omega) (by omega) (by omega) (by omega) (by omega)), fun x => ?_⟩
            rw [gt_sw lk (p + 1) p x (by omega) (by omega), rot_down _ _ _ _ (by omega), HX2.out, HX2.out, HX2.out]
          case measure => first | (simp [intOf]; done) | (simp [intOf]; omega)
        · have hk3 : ¬ (i : Int) < (k : Int) := by omega
          have HKI := hid (show k = i by omega)
          go_wp2_with fail
          go_end0
          refine ⟨rfl, lk, HO2.out, HG2.out, HR2.out, ?_⟩
          have hx := HX2.out
          rw [HKI.out] at hx
          have hm := HMB.out
          rw [hm]
          exact ins_high hi hj HS.out hx (fun h => H1.out h) (fun h => H2.out h)
end PlayC
end Go.Proofs.Ytgplaoojimpbaaa
