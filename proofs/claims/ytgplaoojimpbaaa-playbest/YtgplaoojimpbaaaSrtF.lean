/- Contracts: symMergeCmpFunc of jobs (written by gen_srt.py). -/
import Derived.Test.YtgplaoojimpbaaaSrtE
set_option linter.unusedVariables false
namespace Go.Proofs.Ytgplaoojimpbaaa
open Go.RowKit hiding tok
open Go.Shelf Go.Sort
open SpanM SpanC PlayM
namespace PlayC
open RowG
set_option maxRecDepth 20000 in
set_option maxHeartbeats 6400000 in
theorem merge_le (g n cap B a m b mid : Nat) (l : List Jb) (w : World) (h : OwnJ w B (vS g n cap) l) (hn : n = l.length) (hbig : a + 2 ≤ m ∧ m + 2 ≤ b) (hb : b ≤ l.length) (hl : l.length ≤ 4000) (hs1 : Srt l a m) (hs2 : Srt l m b) (hmid : mid = (a + b) / 2) (hcd : m ≤ mid) (hF : Fewer g n cap B (b - a)) :
    Calls Try.prog 67 #[vS g n cap, .int .i64 a, .int .i64 m, .int .i64 b, vC] w (Merged g n cap B a b l w) := by
  obtain ⟨K, hK⟩ : ∃ K : Nat, K = 7 := ⟨7, rfl⟩
  have z72 := sizeK K hK
  have a72 := Try.isAgg72
  have mixed := mixd
  have HK := hid hK
  have HO := hid h
  have HN := hid hn
  have HF := hid hF
  have hnl : n ≤ 4000 := by omega
  have hbn : b ≤ n := by omega
  have hm1 : ((m : Int) - (a : Int) == 1) = false := by simp; omega
  have hwm : IntKind.i64.wrap ((m : Int) - (a : Int)) = (m : Int) - (a : Int) := by rw [IntKind.wrap_i64]; omega
  have hm2 : ((b : Int) - (m : Int) == 1) = false := by simp; omega
  have hwb : IntKind.i64.wrap ((b : Int) - (m : Int)) = (b : Int) - (m : Int) := by rw [IntKind.wrap_i64]; omega
  have em : ((a : Int) + (b : Int)) / 2 = (mid : Int) := by omega
  have hm3 : a < mid := by omega
  have hm4 : mid < b := by omega
  have ham2 : a < m := by omega
  have hmb2 : m < b := by omega
  have HSE := hid (fun (s : Nat) (hf : Found l a m b mid a m s) (l1 : List Jb) (he : ∀ k, gt l1 k = rotF (gt l) s m (mid + m - s) k) => halves hs1 hs2 ham2 hmb2 hmid (lo := a) (hi := m) (by rw [if_neg (by omega)]) (by rw [if_neg (by omega)]) hf he)
  have HBG := hid hbig
  have HMD := hid hmid
  have hmm : mid + m ≤ a + b + m := by omega
  have hlo1 : a ≤ m := by omega
  have hlo2 : a ≤ a := by omega
  have hhi1 : m ≤ m := by omega
  have hhi2 : m ≤ mid := by omega
  have hlo3 : mid + m ≤ b + a := by omega
  obtain ⟨lo, hlo⟩ : ∃ x, x = a := ⟨_, rfl⟩
  obtain ⟨hi, hhi⟩ : ∃ x, x = m := ⟨_, rfl⟩
  rw [← hlo] at HSE hlo1 hlo2 hlo3
  rw [← hhi] at HSE hlo1 hhi1 hhi2
  replace hlo := hlo.symm
  replace hhi := hhi.symm
  subst hlo
  subst hhi
  have hcd2 : ¬ (mid : Int) < (m : Int) := by omega
  clear h hK hn hb hl hs1 hs2 hbig hmid hF
  go_enter Try.func67, Try.ntmps67
  go_wp2_with fail
  go_loopw [20, 21] (fun vi vj wr => ∃ (i j : Nat), a ≤ i ∧ i ≤ j ∧ j ≤ m ∧ vi = .int .i64 i ∧ vj = .int .i64 j ∧ OwnJ wr B (vS g n cap) l ∧ w.grownBy wr (some g) ∧ Hid (a < i → sc l (i - 1) ≤ sc l (mid + m - i)) ∧ Hid (j < m → sc l (mid + m - j - 1) ≤ sc l j)) (fun vi vj _ => (intOf vj).toNat - (intOf vi).toNat)
  case atStart => exact ⟨a, m, by omega, by omega, by omega, by first | (go_num; done) | (congr 1; omega), by first | (go_num; done) | (congr 1; omega), HO.out, grown_refl _ _, (fun h => absurd h (Nat.lt_irrefl _) : a < a → _), (fun h => absurd h (Nat.lt_irrefl _) : m < m → _)⟩
  case round =>
    obtain ⟨i, j, hi1, hij, hj1, rfl, rfl, ho, hg, H1, H2⟩ := hrel
    have HO1 := hid ho
    have HG1 := hid hg
    clear ho hg
    by_cases hlt : i < j
    · obtain ⟨q, hq⟩ : ∃ q, q = (i + j) / 2 := ⟨_, rfl⟩
      have eq1 : ((i : Int) + (j : Int)) / 2 = (q : Int) := by omega
      have hq1 : i ≤ q := by omega
      have hq2 : q < j := by omega
      have hqn : (q : Int) < (n : Int) := by omega
      obtain ⟨p, hp⟩ : ∃ p, p = mid + m - 1 - q := ⟨_, rfl⟩
      have ix1 : (0 : Int) ≤ (mid : Int) + (m : Int) - 1 - (q : Int) := by omega
      have ix2 : (mid : Int) + (m : Int) - 1 - (q : Int) < (n : Int) := by omega
      have ix3 : ((mid : Int) + (m : Int) - 1 - (q : Int)).toNat = p := by omega
      have epw : IntKind.i64.wrap ((mid : Int) + (m : Int) - 1 - (q : Int)) = (mid : Int) + (m : Int) - 1 - (q : Int) := by rw [IntKind.wrap_i64]; omega
      have hpn : p < n := by omega
      have ix4 : (q : Int) ≤ (mid : Int) + (m : Int) - 1 := by omega
      have ix5 : ¬ ((mid : Int) + (m : Int) - 1 - (q : Int) < 0) := by omega
      have ix6 : ¬ ((n : Int) ≤ (mid : Int) + (m : Int) - 1 - (q : Int)) := by omega
      have ix7 : ¬ ((mid : Int) + (m : Int) - 1 < (q : Int)) := by omega
      have HP := hid hp
      clear hq hp
      obtain ⟨cx, cy, c, hcx, hcy, HCI, l1, l2, hcm⟩ := cmp_ready K HK.out HO1.out p q (by have := HN.out; omega) (by have := HN.out; omega)
      by_cases hlv : c < 0
      · go_wp2_with fail
        go_quiet_grown (first | (go_at_call 35; refine Calls.grown_of (hcm _ _)))
        go_wp2_with fail
        have HO3 := hid (own_grow HO1.out nq osq)
        have HG3 := hid (grown_grow wr nq osq (some g))
        generalize grow (wr.drewN nq) osq = w3 at *
        clear l1 l2 hcm
        go_roundw
        case rel =>
          refine ⟨i, q, by omega, by omega, by omega, rfl, by go_num, HO3.out, HG1.out.trans HG3.out, H1, (fun _ => ?_ : q < m → sc l (mid + m - q - 1) ≤ sc l q)⟩
          have := HCI.out.1 hlv
          have e := HP.out
          rw [show mid + m - q - 1 = p by omega]; omega
        case measure => simp [intOf]; omega
      · have HLV := hid (fun h : c < 0 => hlv h)
        have hlv2 : decide (c < 0) = false := decide_eq_false hlv
        have hlv3 : (!decide (c < 0)) = true := by rw [hlv2]; rfl
        go_wp2_with fail
        go_quiet_grown (first | (go_at_call 35; refine Calls.grown_of (hcm _ _)))
        go_wp2_with fail
        have HO3 := hid (own_grow HO1.out nq osq)
        have HG3 := hid (grown_grow wr nq osq (some g))
        generalize grow (wr.drewN nq) osq = w3 at *
        clear l1 l2 hcm
        go_roundw
        case rel =>
          refine ⟨q + 1, j, by omega, by omega, by omega, by go_num, rfl, HO3.out, HG1.out.trans HG3.out, (fun _ => ?_ : a < q + 1 → sc l (q + 1 - 1) ≤ sc l (mid + m - (q + 1))), H2⟩
          have h6 : ¬ sc l p < sc l q := fun h => HLV.out (HCI.out.2 h)
          have e := HP.out
          rw [Nat.add_sub_cancel, show mid + m - (q + 1) = p by omega]; omega
        case measure => simp [intOf]; omega
    · obtain rfl : i = j := by omega
      obtain ⟨e, he⟩ : ∃ e, e = mid + m - i := ⟨_, rfl⟩
      have hfd := hid (show Found l a m b mid a m i from ⟨hi1, hj1, H1.out, H2.out⟩)
      have HV : Hid (Hv g n cap B a m b mid i e l) := by
        have o := HSE.out i hfd.out
        have e1 := HN.out
        exact (⟨e1, by omega, ham2, hmb2, by omega, HBG.out, HMD.out, he, by omega, fun l1 hl1 => (o l1 hl1).2.2.2.2.2.2⟩ : Hv g n cap B a m b mid i e l)
      have ee : (mid : Int) + (m : Int) - (i : Int) = (e : Int) := by omega
      have eew : IntKind.i64.wrap ((mid : Int) + (m : Int) - (i : Int)) = (e : Int) := by rw [IntKind.wrap_i64]; omega
      have r1 : i ≤ m := by omega
      have r2 : i ≤ mid := by omega
      have r3 : e = mid + m - i := he
      have RE := hid he
      have rx : (mid < e ↔ i < m) ∧ (m < e ↔ i < mid) := by omega
      obtain ⟨rx1, rx2⟩ := rx
      clear r3 he
      by_cases hX : i < m
      · by_cases hY : i < mid
        · by_cases hA : a < i
          · by_cases hQ : e < b
            · have hX2 :  (mid : Nat) < e := by omega
              have hY2 :  (m : Nat) < e := by omega
              clear rx1 rx2
              go_wp2_with (first | (go_at_call 76; refine (HV.out.rot HO1.out HG1.out (by omega) (by omega)).mono ?_; rintro r w1 ⟨rfl, l1, hs1⟩; have HS1 := hid hs1; clear hs1) | (go_at_call 67; have hc := HV.out.two HF.out HS2.out (by omega) (by omega); (with_reducible refine hc.mono ?_); rintro r w3 hs3; have hr := hs3.1; subst hr; have HS3 := hid hs3; clear hs3 hc) | (go_at_call 67; have hc := HV.out.one HF.out HS1.out (by omega) (by omega); (with_reducible refine hc.mono ?_); rintro r w2 ⟨rfl, l2, hs2⟩; have HS2 := hid hs2; clear hs2 hc))
              go_end0
              exact HS3.out
            · have hX2 :  (mid : Nat) < e := by omega
              have hY2 :  (m : Nat) < e := by omega
              clear rx1 rx2
              go_wp2_with (first | (go_at_call 76; refine (HV.out.rot HO1.out HG1.out (by omega) (by omega)).mono ?_; rintro r w1 ⟨rfl, l1, hs1⟩; have HS1 := hid hs1; clear hs1) | (go_at_call 67; have hc := HV.out.one HF.out HS1.out (by omega) (by omega); (with_reducible refine hc.mono ?_); rintro r w2 ⟨rfl, l2, hs2⟩; have HS2 := hid hs2; clear hs2 hc))
              go_end0
              exact HV.out.two_not HS2.out (by omega)
          · by_cases hQ : e < b
            · have hX2 :  (mid : Nat) < e := by omega
              have hY2 :  (m : Nat) < e := by omega
              clear rx1 rx2
              go_wp2_with (first | (go_at_call 76; refine (HV.out.rot HO1.out HG1.out (by omega) (by omega)).mono ?_; rintro r w1 ⟨rfl, l1, hs1⟩; have HS1 := hid hs1; clear hs1; have HS2 := hid (HV.out.one_not HS1.out (by omega))) | (go_at_call 67; have hc := HV.out.two HF.out HS2.out (by omega) (by omega); (with_reducible refine hc.mono ?_); rintro r w3 hs3; have hr := hs3.1; subst hr; have HS3 := hid hs3; clear hs3 hc))
              go_end0
              exact HS3.out
            · have hX2 :  (mid : Nat) < e := by omega
              have hY2 :  (m : Nat) < e := by omega
              clear rx1 rx2
              go_wp2_with (first | (go_at_call 76; refine (HV.out.rot HO1.out HG1.out (by omega) (by omega)).mono ?_; rintro r w1 ⟨rfl, l1, hs1⟩; have HS1 := hid hs1; clear hs1; have HS2 := hid (HV.out.one_not HS1.out (by omega))))
              go_end0
              exact HV.out.two_not HS2.out (by omega)
        · by_cases hA : a < i
          · by_cases hQ : e < b
            · have hX2 :  (mid : Nat) < e := by omega
              have hY2 : ¬ (m : Nat) < e := by omega
              clear rx1 rx2
              have HS1 := hid (HV.out.rot_not HO1.out HG1.out (by omega))
              have HS2 := hid (HV.out.one_not HS1.out (by omega))
              go_wp2_with (first | (go_at_call 67; have hc := HV.out.two HF.out HS2.out (by omega) (by omega); (with_reducible refine hc.mono ?_); rintro r w3 hs3; have hr := hs3.1; subst hr; have HS3 := hid hs3; clear hs3 hc))
              go_end0
              exact HS3.out
            · have hX2 :  (mid : Nat) < e := by omega
              have hY2 : ¬ (m : Nat) < e := by omega
              clear rx1 rx2
              have HS1 := hid (HV.out.rot_not HO1.out HG1.out (by omega))
              have HS2 := hid (HV.out.one_not HS1.out (by omega))
              go_wp2_with (fail)
              go_end0
              exact HV.out.two_not HS2.out (by omega)
          · by_cases hQ : e < b
            · have hX2 :  (mid : Nat) < e := by omega
              have hY2 : ¬ (m : Nat) < e := by omega
              clear rx1 rx2
              have HS1 := hid (HV.out.rot_not HO1.out HG1.out (by omega))
              have HS2 := hid (HV.out.one_not HS1.out (by omega))
              go_wp2_with (first | (go_at_call 67; have hc := HV.out.two HF.out HS2.out (by omega) (by omega); (with_reducible refine hc.mono ?_); rintro r w3 hs3; have hr := hs3.1; subst hr; have HS3 := hid hs3; clear hs3 hc))
              go_end0
              exact HS3.out
            · have hX2 :  (mid : Nat) < e := by omega
              have hY2 : ¬ (m : Nat) < e := by omega
              clear rx1 rx2
              have HS1 := hid (HV.out.rot_not HO1.out HG1.out (by omega))
              have HS2 := hid (HV.out.one_not HS1.out (by omega))
              go_wp2_with (fail)
              go_end0
              exact HV.out.two_not HS2.out (by omega)
      · by_cases hY : i < mid
        · by_cases hA : a < i
          · by_cases hQ : e < b
            · have hX2 : ¬ (mid : Nat) < e := by omega
              have hY2 :  (m : Nat) < e := by omega
              clear rx1 rx2
              have HS1 := hid (HV.out.rot_not HO1.out HG1.out (by omega))
              go_wp2_with (first | (go_at_call 67; have hc := HV.out.one HF.out HS1.out (by omega) (by omega); (with_reducible refine hc.mono ?_); rintro r w2 ⟨rfl, l2, hs2⟩; have HS2 := hid hs2; clear hs2 hc))
              go_end0
              exact HV.out.two_not HS2.out (by omega)
            · have hX2 : ¬ (mid : Nat) < e := by omega
              have hY2 :  (m : Nat) < e := by omega
              clear rx1 rx2
              have HS1 := hid (HV.out.rot_not HO1.out HG1.out (by omega))
              go_wp2_with (first | (go_at_call 67; have hc := HV.out.one HF.out HS1.out (by omega) (by omega); (with_reducible refine hc.mono ?_); rintro r w2 ⟨rfl, l2, hs2⟩; have HS2 := hid hs2; clear hs2 hc))
              go_end0
              exact HV.out.two_not HS2.out (by omega)
          · by_cases hQ : e < b
            · have hX2 : ¬ (mid : Nat) < e := by omega
              have hY2 :  (m : Nat) < e := by omega
              clear rx1 rx2
              have HS1 := hid (HV.out.rot_not HO1.out HG1.out (by omega))
              have HS2 := hid (HV.out.one_not HS1.out (by omega))
              go_wp2_with (fail)
              go_end0
              exact HV.out.two_not HS2.out (by omega)
            · have hX2 : ¬ (mid : Nat) < e := by omega
              have hY2 :  (m : Nat) < e := by omega
              clear rx1 rx2
              have HS1 := hid (HV.out.rot_not HO1.out HG1.out (by omega))
              have HS2 := hid (HV.out.one_not HS1.out (by omega))
              go_wp2_with (fail)
              go_end0
              exact HV.out.two_not HS2.out (by omega)
        · by_cases hA : a < i
          · by_cases hQ : e < b
            · have hX2 : ¬ (mid : Nat) < e := by omega
              have hY2 : ¬ (m : Nat) < e := by omega
              clear rx1 rx2
              have HS1 := hid (HV.out.rot_not HO1.out HG1.out (by omega))
              have HS2 := hid (HV.out.one_not HS1.out (by omega))
              go_wp2_with (fail)
              go_end0
              exact HV.out.two_not HS2.out (by omega)
            · have hX2 : ¬ (mid : Nat) < e := by omega
              have hY2 : ¬ (m : Nat) < e := by omega
              clear rx1 rx2
              have HS1 := hid (HV.out.rot_not HO1.out HG1.out (by omega))
              have HS2 := hid (HV.out.one_not HS1.out (by omega))
              go_wp2_with (fail)
              go_end0
              exact HV.out.two_not HS2.out (by omega)
          · by_cases hQ : e < b
            · have hX2 : ¬ (mid : Nat) < e := by omega
              have hY2 : ¬ (m : Nat) < e := by omega
              clear rx1 rx2
              have HS1 := hid (HV.out.rot_not HO1.out HG1.out (by omega))
              have HS2 := hid (HV.out.one_not HS1.out (by omega))
              go_wp2_with (fail)
              go_end0
              exact HV.out.two_not HS2.out (by omega)
            · have hX2 : ¬ (mid : Nat) < e := by omega
              have hY2 : ¬ (m : Nat) < e := by omega
              clear rx1 rx2
              have HS1 := hid (HV.out.rot_not HO1.out HG1.out (by omega))
              have HS2 := hid (HV.out.one_not HS1.out (by omega))
              go_wp2_with (fail)
              go_end0
              exact HV.out.two_not HS2.out (by omega)
end PlayC
end Go.Proofs.Ytgplaoojimpbaaa
