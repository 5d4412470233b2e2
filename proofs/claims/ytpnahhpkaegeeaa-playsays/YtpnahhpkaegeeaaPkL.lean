/- Several texts, one behind the other: SrtD SrtE SrtF SrtG SrtH. -/
import Derived.Test.YtpnahhpkaegeeaaPkK
/- Contracts: symMergeCmpFunc of jobs (written by gen_srt.py). -/
set_option linter.unusedVariables false
namespace Go.Proofs.Ytpnahhpkaegeeaa
open Go.RowKit hiding tok
open Go.Shelf Go.Sort
open SpanM SpanC PlayM
namespace PlayC
open RowG
set_option maxRecDepth 20000 in
set_option maxHeartbeats 3200000 in
theorem merge_high (g n cap B a m b : Nat) (l : List Jb) (w : World) (h : OwnJ w B (vS g n cap) l) (hn : n = l.length) (ham : a + 1 < m) (hmb : b = m + 1) (hb : b ≤ l.length) (hl : l.length ≤ 4000) (hs : Srt l a m) :
    Calls Try.prog 89 #[vS g n cap, .int .i64 a, .int .i64 m, .int .i64 b, vC] w (Merged g n cap B a b l w) := by
  obtain ⟨K, hK⟩ : ∃ K : Nat, K = 7 := ⟨7, rfl⟩
  have z72 := sizeK K hK
  have a72 := Try.isAgg83
  have mixed := mixd
  have HK := hid hK
  have HO := hid h
  have HN := hid hn
  have HMB := hid hmb
  have HS := hid hs
  have hnl : n ≤ 4000 := by omega
  have hbn : b ≤ n := by omega
  have hmn : m < n := by omega
  have hm1 : ((m : Int) - (a : Int) == 1) = false := by simp; omega
  have hwm : IntKind.i64.wrap ((m : Int) - (a : Int)) = (m : Int) - (a : Int) := by rw [IntKind.wrap_i64]; omega
  have hm2 : ((b : Int) - (m : Int) == 1) = true := by simp; omega
  have hwb : IntKind.i64.wrap ((b : Int) - (m : Int)) = (b : Int) - (m : Int) := by rw [IntKind.wrap_i64]; omega
  have ham2 : a < m := by omega
  have hmb2 : m < b := by omega
  clear h hK hn hb hl hs hmb
  go_enter Try.func89, Try.ntmps89
  go_wp2_with fail
  go_loopw [14, 15] (fun vi vj wr => ∃ (i j : Nat), a ≤ i ∧ i ≤ j ∧ j ≤ m ∧ vi = .int .i64 i ∧ vj = .int .i64 j ∧ OwnJ wr B (vS g n cap) l ∧ w.grownBy wr (some g) ∧ Hid (a < i → sc l (i - 1) ≤ sc l m) ∧ Hid (j < m → sc l m ≤ sc l j)) (fun vi vj _ => (intOf vj).toNat - (intOf vi).toNat)
  case atStart => exact ⟨a, m, by omega, by omega, by omega, by go_num, by go_num, HO.out, grown_refl _ _, (fun h => absurd h (Nat.lt_irrefl _) : a < a → _), (fun h => absurd h (Nat.lt_irrefl _) : m < m → _)⟩
  case round =>
    obtain ⟨i, j, hi, hij, hj, rfl, rfl, ho, hg, H1, H2⟩ := hrel
    have HO1 := hid ho
    have HG1 := hid hg
    clear ho hg
    by_cases hlt : i < j
    · obtain ⟨q, hq⟩ : ∃ q, q = (i + j) / 2 := ⟨_, rfl⟩
      have eq1 : ((i : Int) + (j : Int)) / 2 = (q : Int) := by omega
      have hq1 : i ≤ q := by omega
      have hq2 : q < j := by omega
      have hqn : (q : Int) < (n : Int) := by omega
      have han : (m : Int) < (n : Int) := by omega
      clear hq
      obtain ⟨cx, cy, c, hcx, hcy, HCI, l1, l2, hcm⟩ := cmp_ready K HK.out HO1.out m q (by have := HN.out; omega) (by have := HN.out; omega)
      by_cases hlv : c < 0
      · go_wp2_with fail
        go_quiet_grown (first | (go_at_call 47; refine Calls.grown_of (hcm _ _)))
        go_wp2_with fail
        have HO3 := hid (own_grow HO1.out nq osq)
        have HG3 := hid (grown_grow wr nq osq (some g))
        generalize grow (wr.drewN nq) osq = w3 at *
        clear l1 l2 hcm
        go_roundw
        case rel =>
          refine ⟨i, q, by omega, by omega, by omega, rfl, by go_num, HO3.out, HG1.out.trans HG3.out, H1, (fun _ => ?_ : q < m → sc l m ≤ sc l q)⟩
          have := HCI.out.1 hlv; omega
        case measure => simp [intOf]; omega
      · have HLV := hid (fun h : c < 0 => hlv h)
        have hlv2 : decide (c < 0) = false := decide_eq_false hlv
        have hlv3 : (!decide (c < 0)) = true := by rw [hlv2]; rfl
        go_wp2_with fail
        go_quiet_grown (first | (go_at_call 47; refine Calls.grown_of (hcm _ _)))
        go_wp2_with fail
        have HO3 := hid (own_grow HO1.out nq osq)
        have HG3 := hid (grown_grow wr nq osq (some g))
        generalize grow (wr.drewN nq) osq = w3 at *
        clear l1 l2 hcm
        go_roundw
        case rel =>
          refine ⟨q + 1, j, by omega, by omega, by omega, by go_num, rfl, HO3.out, HG1.out.trans HG3.out, (fun _ => ?_ : a < q + 1 → sc l (q + 1 - 1) ≤ sc l m), H2⟩
          have h6 : ¬ sc l m < sc l q := fun h => HLV.out (HCI.out.2 h)
          rw [Nat.add_sub_cancel]; omega
        case measure => simp [intOf]; omega
    · obtain rfl : i = j := by omega
      go_wp2_with fail
      obtain ⟨w0, hw0⟩ : ∃ x, x = wr := ⟨_, rfl⟩
      subst hw0
      go_loopw [17] (fun vk wr => ∃ (k : Nat) (lk : List Jb), i ≤ k ∧ k ≤ m ∧ vk = .int .i64 k ∧ OwnJ wr B (vS g n cap) lk ∧ w.grownBy wr (some g) ∧ Rg a b l lk ∧ (∀ x, gt lk x = rotF (gt l) k m (m + 1) x)) (fun vk _ => (intOf vk).toNat)
      case atStart => exact ⟨m, l, by omega, by omega, rfl, HO1.out, HG1.out, Rg.refl _ _ _, fun x => (rot_id1 _ _ _ _).symm⟩
      case round =>
        obtain ⟨k, lk, hik, hkm, rfl, ho, hg, hr, hx⟩ := hrel
        have HO2 := hid ho
        have HG2 := hid hg
        have HR2 := hid hr
        have HX2 := hid hx
        have hlk : lk.length = n := by rw [hr.len, HN.out]
        clear ho hg hr hx
        by_cases hk2 : i < k
        · obtain ⟨p, rfl⟩ : ∃ p, k = p + 1 := ⟨k - 1, by omega⟩
          have hk3 : (i : Int) < (p : Int) + 1 := by omega
          obtain ⟨dx, dy, hdx, hdy, l1, l2, s1, s2, HSW⟩ := sw_ready K HK.out HO2.out (p + 1) p (by omega) (by omega)
          have i1 : (0 : Int) ≤ (p : Int) + 1 := by omega
          have i2 : (p : Int) + 1 < (n : Int) := by omega
          have i3 : (p : Int) < (n : Int) := by omega
          have e0 : ((p : Int) + 1).toNat = p + 1 := by omega
          have hwp : IntKind.i64.wrap (p : Int) = (p : Int) := by rw [IntKind.wrap_i64]; omega
          have HLK := hid hlk
          clear hlk
          go_wp2_with fail
          go_big_region_o
          all_goals go_wp2
          go_roundw
          case rel =>
            have h5 := HLK.out
            refine ⟨p, sw lk (p + 1) p, by omega, by omega, by go_num, HSW.out.1, HG2.out.trans HSW.out.2, HR2.out.trans (Rg.sw (by omega) (by omega) (by omega) (by omega) (by omega) (by omega)), fun x => ?_⟩
            rw [gt_sw lk (p + 1) p x (by omega) (by omega), rot_down _ _ _ _ (by omega), HX2.out, HX2.out, HX2.out]
          case measure => first | (simp [intOf]; done) | (simp [intOf]; omega)
        · have hk3 : ¬ (i : Int) < (k : Int) := by omega
          have HKI := hid (show k = i by omega)
          go_wp2_with fail
          go_end0
          refine ⟨rfl, lk, HO2.out, HG2.out, HR2.out, ?_⟩
          have hx := HX2.out
          rw [HKI.out] at hx
          have hm := HMB.out
          rw [hm]
          exact ins_high hi hj HS.out hx (fun h => H1.out h) (fun h => H2.out h)
end PlayC
end Go.Proofs.Ytpnahhpkaegeeaa

/- Contracts: symMergeCmpFunc of jobs (written by gen_srt.py). -/
set_option linter.unusedVariables false
namespace Go.Proofs.Ytpnahhpkaegeeaa
open Go.RowKit hiding tok
open Go.Shelf Go.Sort
open SpanM SpanC PlayM
namespace PlayC
open RowG
/-- behind the exchange -/
def St1 (g n cap B a m b mid s : Nat) (l : List Jb) (w w1 : World) (l1 : List Jb) : Prop :=
  OwnJ w1 B (vS g n cap) l1 ∧ w.grownBy w1 (some g) ∧ Rg a b l l1 ∧ (∀ x, gt l1 x = rotF (gt l) s m (mid + m - s) x)
/-- behind the first half -/
def St2 (g n cap B a m b mid s : Nat) (l : List Jb) (w w2 : World) (l2 : List Jb) : Prop :=
  OwnJ w2 B (vS g n cap) l2 ∧ w.grownBy w2 (some g) ∧ ∃ l1, Rg a b l l1 ∧ (∀ x, gt l1 x = rotF (gt l) s m (mid + m - s) x) ∧ Rg a mid l1 l2 ∧ Srt l2 a mid
/-- what is known of the whole, for fewer -/
def Fewer (g n cap B : Nat) (N : Nat) : Prop := ∀ (a m b : Nat) (l : List Jb) (w : World), b - a < N → OwnJ w B (vS g n cap) l → n = l.length → a < m → m < b → b ≤ l.length → l.length ≤ 4000 → Srt l a m → Srt l m b →
  Calls Try.prog 89 #[vS g n cap, .int .i64 a, .int .i64 m, .int .i64 b, vC] w (Merged g n cap B a b l w)
/-- what is known behind the search, and the halves -/
structure Hv (g n cap B a m b mid s e : Nat) (l : List Jb) : Prop where
  nn : n = l.length
  small : l.length ≤ 4000
  ham : a < m
  hmb : m < b
  hb : b ≤ l.length
  big : a + 2 ≤ m ∧ m + 2 ≤ b
  hmid : mid = (a + b) / 2
  he : e = mid + m - s
  ord : a ≤ s ∧ s ≤ m ∧ m ≤ mid + m - s ∧ mid + m - s ≤ b ∧ s ≤ mid ∧ mid ≤ mid + m - s
  halves : ∀ l1, (∀ k, gt l1 k = rotF (gt l) s m (mid + m - s) k) → Srt l1 a s ∧ Srt l1 s mid ∧ Srt l1 mid (mid + m - s) ∧ Srt l1 (mid + m - s) b ∧ (∀ i j, a ≤ i → i < mid → mid ≤ j → j < b → sc l1 i ≤ sc l1 j)
variable {g n cap B a m b mid s e : Nat} {l : List Jb} {w : World}
theorem Hv.rot (V : Hv g n cap B a m b mid s e l) {w0 : World} (ho : OwnJ w0 B (vS g n cap) l) (hg : w.grownBy w0 (some g)) (h1 : s < m) (h2 : m < e) :
    Calls Try.prog 101 #[vS g n cap, .int .i64 s, .int .i64 m, .int .i64 e, vC] w0 fun r w1 => r = .returned (.tuple #[]) ∧ ∃ l1, St1 g n cap B a m b mid s l w w1 l1 := by
  obtain ⟨o1, o2, o3, o4, o5, o6⟩ := V.ord
  refine (rotate_any g n cap B s m e vC l w0 ho V.nn h1 h2 (by have := V.he; have := V.hb; omega) V.small).mono ?_
  rintro r w1 ⟨rfl, l1, h3, h4, h5, h6⟩
  refine ⟨rfl, l1, h3, hg.trans h4, h5.wide o1 (by have := V.he; omega), ?_⟩
  rw [V.he] at h6; exact h6
theorem Hv.rot_not (V : Hv g n cap B a m b mid s e l) {w0 : World} (ho : OwnJ w0 B (vS g n cap) l) (hg : w.grownBy w0 (some g)) (h : ¬ (s < m ∧ m < e)) : St1 g n cap B a m b mid s l w w0 l := by
  obtain ⟨o1, o2, o3, o4, o5, o6⟩ := V.ord
  refine ⟨ho, hg, Rg.refl _ _ _, fun x => ?_⟩
  have := V.he
  by_cases c : s < m
  · rw [show mid + m - s = m by omega, rot_id2 _ _ _ _ (by omega)]
  · rw [show s = m by omega, rot_id1]
theorem Hv.one (V : Hv g n cap B a m b mid s e l) (F : Fewer g n cap B (b - a)) {w1 : World} {l1 : List Jb} (h : St1 g n cap B a m b mid s l w w1 l1) (h1 : a < s) (h2 : s < mid) :
    Calls Try.prog 89 #[vS g n cap, .int .i64 a, .int .i64 s, .int .i64 mid, vC] w1 fun r w2 => r = .returned (.tuple #[]) ∧ ∃ l2, St2 g n cap B a m b mid s l w w2 l2 := by
  obtain ⟨o1, o2, o3, o4, o5, o6⟩ := V.ord
  obtain ⟨k1, k2, k3, k4⟩ := h
  obtain ⟨v1, v2, v3, v4, v5⟩ := V.halves l1 k4
  have e1 := V.nn; have e2 := V.small; have e3 := V.hmid; have e4 := V.big; have e5 := k3.len; have e6 := V.hb
  refine (F a s mid l1 w1 (by omega) k1 (by omega) h1 h2 (by omega) (by omega) v1 v2).mono ?_
  rintro r w2 ⟨rfl, l2, j1, j2, j3, j4⟩
  exact ⟨rfl, l2, j1, k2.trans j2, l1, k3, k4, j3, j4⟩
theorem Hv.one_not (V : Hv g n cap B a m b mid s e l) {w1 : World} {l1 : List Jb} (h : St1 g n cap B a m b mid s l w w1 l1) (h1 : ¬ (a < s ∧ s < mid)) : St2 g n cap B a m b mid s l w w1 l1 := by
  obtain ⟨o1, o2, o3, o4, o5, o6⟩ := V.ord
  obtain ⟨k1, k2, k3, k4⟩ := h
  obtain ⟨v1, v2, v3, v4, v5⟩ := V.halves l1 k4
  refine ⟨k1, k2, l1, k3, k4, Rg.refl _ _ _, ?_⟩
  by_cases c : a < s
  · rw [show s = mid by omega] at v1; exact v1
  · rw [show s = a by omega] at v2; exact v2
theorem Hv.two (V : Hv g n cap B a m b mid s e l) (F : Fewer g n cap B (b - a)) {w2 : World} {l2 : List Jb} (h : St2 g n cap B a m b mid s l w w2 l2) (h1 : mid < e) (h2 : e < b) :
    Calls Try.prog 89 #[vS g n cap, .int .i64 mid, .int .i64 e, .int .i64 b, vC] w2 fun r w3 => Merged g n cap B a b l w r w3 := by
  obtain ⟨o1, o2, o3, o4, o5, o6⟩ := V.ord
  obtain ⟨k1, k2, l1, k3, k4, k5, k6⟩ := h
  obtain ⟨v1, v2, v3, v4, v5⟩ := V.halves l1 k4
  have e1 := V.nn; have e2 := V.small; have e3 := V.hmid; have e4 := V.big; have e5 := k3.len; have e6 := V.hb; have e7 := V.he; have e8 := k5.len
  have v3' : Srt l2 mid e := by rw [e7]; exact v3.same fun k x1 x2 => k5.out k (by omega)
  have v4' : Srt l2 e b := by rw [e7]; exact v4.same fun k x1 x2 => k5.out k (by omega)
  refine (F mid e b l2 w2 (by omega) k1 (by omega) h1 h2 (by omega) (by omega) v3' v4').mono ?_
  rintro r w3 ⟨rfl, l3, j1, j2, j3, j4⟩
  exact ⟨rfl, l3, j1, k2.trans j2, (k3.trans (k5.wide (Nat.le_refl _) (by omega))).trans (j3.wide (by omega) (Nat.le_refl _)), halves_done (by omega) (by omega) k5 j3 k6 j4 v5⟩
theorem Hv.two_not (V : Hv g n cap B a m b mid s e l) {w2 : World} {l2 : List Jb} (h : St2 g n cap B a m b mid s l w w2 l2) (h1 : ¬ (mid < e ∧ e < b)) : Merged g n cap B a b l w (.returned (.tuple #[])) w2 := by
  obtain ⟨o1, o2, o3, o4, o5, o6⟩ := V.ord
  obtain ⟨k1, k2, l1, k3, k4, k5, k6⟩ := h
  obtain ⟨v1, v2, v3, v4, v5⟩ := V.halves l1 k4
  have e7 := V.he; have e3 := V.hmid; have e4 := V.big
  have v3' : Srt l2 mid (mid + m - s) := v3.same fun k x1 x2 => k5.out k (by omega)
  have v4' : Srt l2 (mid + m - s) b := v4.same fun k x1 x2 => k5.out k (by omega)
  refine ⟨rfl, l2, k1, k2, k3.trans (k5.wide (Nat.le_refl _) (by omega)), halves_done (by omega) (by omega) k5 (Rg.refl _ _ _) k6 ?_ v5⟩
  by_cases c : mid < e
  · rw [show mid + m - s = b by omega] at v3'; exact v3'
  · rw [show mid + m - s = mid by omega] at v4'; exact v4'
set_option maxRecDepth 20000 in
set_option maxHeartbeats 6400000 in
theorem merge_gt (g n cap B a m b mid : Nat) (l : List Jb) (w : World) (h : OwnJ w B (vS g n cap) l) (hn : n = l.length) (hbig : a + 2 ≤ m ∧ m + 2 ≤ b) (hb : b ≤ l.length) (hl : l.length ≤ 4000) (hs1 : Srt l a m) (hs2 : Srt l m b) (hmid : mid = (a + b) / 2) (hcd : mid < m) (hF : Fewer g n cap B (b - a)) :
    Calls Try.prog 89 #[vS g n cap, .int .i64 a, .int .i64 m, .int .i64 b, vC] w (Merged g n cap B a b l w) := by
  obtain ⟨K, hK⟩ : ∃ K : Nat, K = 7 := ⟨7, rfl⟩
  have z72 := sizeK K hK
  have a72 := Try.isAgg83
  have mixed := mixd
  have HK := hid hK
  have HO := hid h
  have HN := hid hn
  have HF := hid hF
  have hnl : n ≤ 4000 := by omega
  have hbn : b ≤ n := by omega
  have hm1 : ((m : Int) - (a : Int) == 1) = false := by simp; omega
  have hwm : IntKind.i64.wrap ((m : Int) - (a : Int)) = (m : Int) - (a : Int) := by rw [IntKind.wrap_i64]; omega
  have hm2 : ((b : Int) - (m : Int) == 1) = false := by simp; omega
  have hwb : IntKind.i64.wrap ((b : Int) - (m : Int)) = (b : Int) - (m : Int) := by rw [IntKind.wrap_i64]; omega
  have em : ((a : Int) + (b : Int)) / 2 = (mid : Int) := by omega
  have hm3 : a < mid := by omega
  have hm4 : mid < b := by omega
  have ham2 : a < m := by omega
  have hmb2 : m < b := by omega
  have HSE := hid (fun (s : Nat) (hf : Found l a m b mid (mid + m - b) mid s) (l1 : List Jb) (he : ∀ k, gt l1 k = rotF (gt l) s m (mid + m - s) k) => halves hs1 hs2 ham2 hmb2 hmid (lo := (mid + m - b)) (hi := mid) (by rw [if_pos (by omega)]) (by rw [if_pos (by omega)]) hf he)
  have HBG := hid hbig
  have HMD := hid hmid
  have hmm : mid + m ≤ a + b + m := by omega
  have hlo1 : (mid + m - b) ≤ mid := by omega
  have hlo2 : a ≤ (mid + m - b) := by omega
  have hhi1 : mid ≤ m := by omega
  have hhi2 : mid ≤ mid := by omega
  have hlo3 : mid + m ≤ b + (mid + m - b) := by omega
  obtain ⟨lo, hlo⟩ : ∃ x, x = (mid + m - b) := ⟨_, rfl⟩
  obtain ⟨hi, hhi⟩ : ∃ x, x = mid := ⟨_, rfl⟩
  rw [← hlo] at HSE hlo1 hlo2 hlo3
  rw [← hhi] at HSE hlo1 hhi1 hhi2
  have es : (mid : Int) + (m : Int) - (b : Int) = (lo : Int) := by omega
  have esw : IntKind.i64.wrap ((mid : Int) + (m : Int) - (b : Int)) = (lo : Int) := by rw [IntKind.wrap_i64]; omega
  have hcd2 : (mid : Int) < (m : Int) := by omega
  have HLO := hid hlo
  replace hhi := hhi.symm
  subst hhi
  clear hlo
  clear h hK hn hb hl hs1 hs2 hbig hmid hF
  go_enter Try.func89, Try.ntmps89
  go_wp2_with fail
  go_loopw [20, 21] (fun vi vj wr => ∃ (i j : Nat), lo ≤ i ∧ i ≤ j ∧ j ≤ mid ∧ vi = .int .i64 i ∧ vj = .int .i64 j ∧ OwnJ wr B (vS g n cap) l ∧ w.grownBy wr (some g) ∧ Hid (lo < i → sc l (i - 1) ≤ sc l (mid + m - i)) ∧ Hid (j < mid → sc l (mid + m - j - 1) ≤ sc l j)) (fun vi vj _ => (intOf vj).toNat - (intOf vi).toNat)
  case atStart => exact ⟨lo, mid, by omega, by omega, by omega, by first | (go_num; done) | (congr 1; omega), by first | (go_num; done) | (congr 1; omega), HO.out, grown_refl _ _, (fun h => absurd h (Nat.lt_irrefl _) : lo < lo → _), (fun h => absurd h (Nat.lt_irrefl _) : mid < mid → _)⟩
  case round =>
    obtain ⟨i, j, hi1, hij, hj1, rfl, rfl, ho, hg, H1, H2⟩ := hrel
    have HO1 := hid ho
    have HG1 := hid hg
    clear ho hg
    by_cases hlt : i < j
    · obtain ⟨q, hq⟩ : ∃ q, q = (i + j) / 2 := ⟨_, rfl⟩
      have eq1 : ((i : Int) + (j : Int)) / 2 = (q : Int) := by omega
      have hq1 : i ≤ q := by omega
      have hq2 : q < j := by omega
      have hqn : (q : Int) < (n : Int) := by omega
      obtain ⟨p, hp⟩ : ∃ p, p = mid + m - 1 - q := ⟨_, rfl⟩
      have ix1 : (0 : Int) ≤ (mid : Int) + (m : Int) - 1 - (q : Int) := by omega
      have ix2 : (mid : Int) + (m : Int) - 1 - (q : Int) < (n : Int) := by omega
      have ix3 : ((mid : Int) + (m : Int) - 1 - (q : Int)).toNat = p := by omega
      have epw : IntKind.i64.wrap ((mid : Int) + (m : Int) - 1 - (q : Int)) = (mid : Int) + (m : Int) - 1 - (q : Int) := by rw [IntKind.wrap_i64]; omega
      have hpn : p < n := by omega
      have ix4 : (q : Int) ≤ (mid : Int) + (m : Int) - 1 := by omega
      have ix5 : ¬ ((mid : Int) + (m : Int) - 1 - (q : Int) < 0) := by omega
      have ix6 : ¬ ((n : Int) ≤ (mid : Int) + (m : Int) - 1 - (q : Int)) := by omega
      have ix7 : ¬ ((mid : Int) + (m : Int) - 1 < (q : Int)) := by omega
      have HP := hid hp
      clear hq hp
      obtain ⟨cx, cy, c, hcx, hcy, HCI, l1, l2, hcm⟩ := cmp_ready K HK.out HO1.out p q (by have := HN.out; omega) (by have := HN.out; omega)
      by_cases hlv : c < 0
      · go_wp2_with fail
        go_quiet_grown (first | (go_at_call 47; refine Calls.grown_of (hcm _ _)))
        go_wp2_with fail
        have HO3 := hid (own_grow HO1.out nq osq)
        have HG3 := hid (grown_grow wr nq osq (some g))
        generalize grow (wr.drewN nq) osq = w3 at *
        clear l1 l2 hcm
        go_roundw
        case rel =>
          refine ⟨i, q, by omega, by omega, by omega, rfl, by go_num, HO3.out, HG1.out.trans HG3.out, H1, (fun _ => ?_ : q < mid → sc l (mid + m - q - 1) ≤ sc l q)⟩
          have := HCI.out.1 hlv
          have e := HP.out
          rw [show mid + m - q - 1 = p by omega]; omega
        case measure => simp [intOf]; omega
      · have HLV := hid (fun h : c < 0 => hlv h)
        have hlv2 : decide (c < 0) = false := decide_eq_false hlv
        have hlv3 : (!decide (c < 0)) = true := by rw [hlv2]; rfl
        go_wp2_with fail
        go_quiet_grown (first | (go_at_call 47; refine Calls.grown_of (hcm _ _)))
        go_wp2_with fail
        have HO3 := hid (own_grow HO1.out nq osq)
        have HG3 := hid (grown_grow wr nq osq (some g))
        generalize grow (wr.drewN nq) osq = w3 at *
        clear l1 l2 hcm
        go_roundw
        case rel =>
          refine ⟨q + 1, j, by omega, by omega, by omega, by go_num, rfl, HO3.out, HG1.out.trans HG3.out, (fun _ => ?_ : lo < q + 1 → sc l (q + 1 - 1) ≤ sc l (mid + m - (q + 1))), H2⟩
          have h6 : ¬ sc l p < sc l q := fun h => HLV.out (HCI.out.2 h)
          have e := HP.out
          rw [Nat.add_sub_cancel, show mid + m - (q + 1) = p by omega]; omega
        case measure => simp [intOf]; omega
    · obtain rfl : i = j := by omega
      obtain ⟨e, he⟩ : ∃ e, e = mid + m - i := ⟨_, rfl⟩
      have hfd := hid (show Found l a m b mid lo mid i from ⟨hi1, hj1, H1.out, H2.out⟩)
      have HV : Hid (Hv g n cap B a m b mid i e l) := by
        have o := HSE.out i hfd.out
        have e1 := HN.out
        exact (⟨e1, by omega, ham2, hmb2, by omega, HBG.out, HMD.out, he, by omega, fun l1 hl1 => (o l1 hl1).2.2.2.2.2.2⟩ : Hv g n cap B a m b mid i e l)
      have ee : (mid : Int) + (m : Int) - (i : Int) = (e : Int) := by omega
      have eew : IntKind.i64.wrap ((mid : Int) + (m : Int) - (i : Int)) = (e : Int) := by rw [IntKind.wrap_i64]; omega
      have r1 : i ≤ m := by omega
      have r2 : i ≤ mid := by omega
      have r3 : e = mid + m - i := he
      have RE := hid he
      have rx : (mid < e ↔ i < m) ∧ (m < e ↔ i < mid) := by omega
      obtain ⟨rx1, rx2⟩ := rx
      clear r3 he
      by_cases hX : i < m
      · by_cases hY : i < mid
        · by_cases hA : a < i
          · by_cases hQ : e < b
            · have hX2 :  (mid : Nat) < e := by omega
              have hY2 :  (m : Nat) < e := by omega
              clear rx1 rx2
              go_wp2_with (first | (go_at_call 101; refine (HV.out.rot HO1.out HG1.out (by omega) (by omega)).mono ?_; rintro r w1 ⟨rfl, l1, hs1⟩; have HS1 := hid hs1; clear hs1) | (go_at_call 89; have hc := HV.out.two HF.out HS2.out (by omega) (by omega); (with_reducible refine hc.mono ?_); rintro r w3 hs3; have hr := hs3.1; subst hr; have HS3 := hid hs3; clear hs3 hc) | (go_at_call 89; have hc := HV.out.one HF.out HS1.out (by omega) (by omega); (with_reducible refine hc.mono ?_); rintro r w2 ⟨rfl, l2, hs2⟩; have HS2 := hid hs2; clear hs2 hc))
              go_end0
              exact HS3.out
            · have hX2 :  (mid : Nat) < e := by omega
              have hY2 :  (m : Nat) < e := by omega
              clear rx1 rx2
              go_wp2_with (first | (go_at_call 101; refine (HV.out.rot HO1.out HG1.out (by omega) (by omega)).mono ?_; rintro r w1 ⟨rfl, l1, hs1⟩; have HS1 := hid hs1; clear hs1) | (go_at_call 89; have hc := HV.out.one HF.out HS1.out (by omega) (by omega); (with_reducible refine hc.mono ?_); rintro r w2 ⟨rfl, l2, hs2⟩; have HS2 := hid hs2; clear hs2 hc))
              go_end0
              exact HV.out.two_not HS2.out (by omega)
          · by_cases hQ : e < b
            · have hX2 :  (mid : Nat) < e := by omega
              have hY2 :  (m : Nat) < e := by omega
              clear rx1 rx2
              go_wp2_with (first | (go_at_call 101; refine (HV.out.rot HO1.out HG1.out (by omega) (by omega)).mono ?_; rintro r w1 ⟨rfl, l1, hs1⟩; have HS1 := hid hs1; clear hs1; have HS2 := hid (HV.out.one_not HS1.out (by omega))) | (go_at_call 89; have hc := HV.out.two HF.out HS2.out (by omega) (by omega); (with_reducible refine hc.mono ?_); rintro r w3 hs3; have hr := hs3.1; subst hr; have HS3 := hid hs3; clear hs3 hc))
              go_end0
              exact HS3.out
            · have hX2 :  (mid : Nat) < e := by omega
              have hY2 :  (m : Nat) < e := by omega
              clear rx1 rx2
              go_wp2_with (first | (go_at_call 101; refine (HV.out.rot HO1.out HG1.out (by omega) (by omega)).mono ?_; rintro r w1 ⟨rfl, l1, hs1⟩; have HS1 := hid hs1; clear hs1; have HS2 := hid (HV.out.one_not HS1.out (by omega))))
              go_end0
              exact HV.out.two_not HS2.out (by omega)
        · by_cases hA : a < i
          · by_cases hQ : e < b
            · have hX2 :  (mid : Nat) < e := by omega
              have hY2 : ¬ (m : Nat) < e := by omega
              clear rx1 rx2
              have HS1 := hid (HV.out.rot_not HO1.out HG1.out (by omega))
              have HS2 := hid (HV.out.one_not HS1.out (by omega))
              go_wp2_with (first | (go_at_call 89; have hc := HV.out.two HF.out HS2.out (by omega) (by omega); (with_reducible refine hc.mono ?_); rintro r w3 hs3; have hr := hs3.1; subst hr; have HS3 := hid hs3; clear hs3 hc))
              go_end0
              exact HS3.out
            · have hX2 :  (mid : Nat) < e := by omega
              have hY2 : ¬ (m : Nat) < e := by omega
              clear rx1 rx2
              have HS1 := hid (HV.out.rot_not HO1.out HG1.out (by omega))
              have HS2 := hid (HV.out.one_not HS1.out (by omega))
              go_wp2_with (fail)
              go_end0
              exact HV.out.two_not HS2.out (by omega)
          · by_cases hQ : e < b
            · have hX2 :  (mid : Nat) < e := by omega
              have hY2 : ¬ (m : Nat) < e := by omega
              clear rx1 rx2
              have HS1 := hid (HV.out.rot_not HO1.out HG1.out (by omega))
              have HS2 := hid (HV.out.one_not HS1.out (by omega))
              go_wp2_with (first | (go_at_call 89; have hc := HV.out.two HF.out HS2.out (by omega) (by omega); (with_reducible refine hc.mono ?_); rintro r w3 hs3; have hr := hs3.1; subst hr; have HS3 := hid hs3; clear hs3 hc))
              go_end0
              exact HS3.out
            · have hX2 :  (mid : Nat) < e := by omega
              have hY2 : ¬ (m : Nat) < e := by omega
              clear rx1 rx2
              have HS1 := hid (HV.out.rot_not HO1.out HG1.out (by omega))
              have HS2 := hid (HV.out.one_not HS1.out (by omega))
              go_wp2_with (fail)
              go_end0
              exact HV.out.two_not HS2.out (by omega)
      · by_cases hY : i < mid
        · by_cases hA : a < i
          · by_cases hQ : e < b
            · have hX2 : ¬ (mid : Nat) < e := by omega
              have hY2 :  (m : Nat) < e := by omega
              clear rx1 rx2
              have HS1 := hid (HV.out.rot_not HO1.out HG1.out (by omega))
              go_wp2_with (first | (go_at_call 89; have hc := HV.out.one HF.out HS1.out (by omega) (by omega); (with_reducible refine hc.mono ?_); rintro r w2 ⟨rfl, l2, hs2⟩; have HS2 := hid hs2; clear hs2 hc))
              go_end0
              exact HV.out.two_not HS2.out (by omega)
            · have hX2 : ¬ (mid : Nat) < e := by omega
              have hY2 :  (m : Nat) < e := by omega
              clear rx1 rx2
              have HS1 := hid (HV.out.rot_not HO1.out HG1.out (by omega))
              go_wp2_with (first | (go_at_call 89; have hc := HV.out.one HF.out HS1.out (by omega) (by omega); (with_reducible refine hc.mono ?_); rintro r w2 ⟨rfl, l2, hs2⟩; have HS2 := hid hs2; clear hs2 hc))
              go_end0
              exact HV.out.two_not HS2.out (by omega)
          · by_cases hQ : e < b
            · have hX2 : ¬ (mid : Nat) < e := by omega
              have hY2 :  (m : Nat) < e := by omega
              clear rx1 rx2
              have HS1 := hid (HV.out.rot_not HO1.out HG1.out (by omega))
              have HS2 := hid (HV.out.one_not HS1.out (by omega))
              go_wp2_with (fail)
              go_end0
              exact HV.out.two_not HS2.out (by omega)
            · have hX2 : ¬ (mid : Nat) < e := by omega
              have hY2 :  (m : Nat) < e := by omega
              clear rx1 rx2
              have HS1 := hid (HV.out.rot_not HO1.out HG1.out (by omega))
              have HS2 := hid (HV.out.one_not HS1.out (by omega))
              go_wp2_with (fail)
              go_end0
              exact HV.out.two_not HS2.out (by omega)
        · by_cases hA : a < i
          · by_cases hQ : e < b
            · have hX2 : ¬ (mid : Nat) < e := by omega
              have hY2 : ¬ (m : Nat) < e := by omega
              clear rx1 rx2
              have HS1 := hid (HV.out.rot_not HO1.out HG1.out (by omega))
              have HS2 := hid (HV.out.one_not HS1.out (by omega))
              go_wp2_with (fail)
              go_end0
              exact HV.out.two_not HS2.out (by omega)
            · have hX2 : ¬ (mid : Nat) < e := by omega
              have hY2 : ¬ (m : Nat) < e := by omega
              clear rx1 rx2
              have HS1 := hid (HV.out.rot_not HO1.out HG1.out (by omega))
              have HS2 := hid (HV.out.one_not HS1.out (by omega))
              go_wp2_with (fail)
              go_end0
              exact HV.out.two_not HS2.out (by omega)
          · by_cases hQ : e < b
            · have hX2 : ¬ (mid : Nat) < e := by omega
              have hY2 : ¬ (m : Nat) < e := by omega
              clear rx1 rx2
              have HS1 := hid (HV.out.rot_not HO1.out HG1.out (by omega))
              have HS2 := hid (HV.out.one_not HS1.out (by omega))
              go_wp2_with (fail)
              go_end0
              exact HV.out.two_not HS2.out (by omega)
            · have hX2 : ¬ (mid : Nat) < e := by omega
              have hY2 : ¬ (m : Nat) < e := by omega
              clear rx1 rx2
              have HS1 := hid (HV.out.rot_not HO1.out HG1.out (by omega))
              have HS2 := hid (HV.out.one_not HS1.out (by omega))
              go_wp2_with (fail)
              go_end0
              exact HV.out.two_not HS2.out (by omega)
end PlayC
end Go.Proofs.Ytpnahhpkaegeeaa

/- Contracts: symMergeCmpFunc of jobs (written by gen_srt.py). -/
set_option linter.unusedVariables false
namespace Go.Proofs.Ytpnahhpkaegeeaa
open Go.RowKit hiding tok
open Go.Shelf Go.Sort
open SpanM SpanC PlayM
namespace PlayC
open RowG
set_option maxRecDepth 20000 in
set_option maxHeartbeats 6400000 in
theorem merge_le (g n cap B a m b mid : Nat) (l : List Jb) (w : World) (h : OwnJ w B (vS g n cap) l) (hn : n = l.length) (hbig : a + 2 ≤ m ∧ m + 2 ≤ b) (hb : b ≤ l.length) (hl : l.length ≤ 4000) (hs1 : Srt l a m) (hs2 : Srt l m b) (hmid : mid = (a + b) / 2) (hcd : m ≤ mid) (hF : Fewer g n cap B (b - a)) :
    Calls Try.prog 89 #[vS g n cap, .int .i64 a, .int .i64 m, .int .i64 b, vC] w (Merged g n cap B a b l w) := by
  obtain ⟨K, hK⟩ : ∃ K : Nat, K = 7 := ⟨7, rfl⟩
  have z72 := sizeK K hK
  have a72 := Try.isAgg83
  have mixed := mixd
  have HK := hid hK
  have HO := hid h
  have HN := hid hn
  have HF := hid hF
  have hnl : n ≤ 4000 := by omega
  have hbn : b ≤ n := by omega
  have hm1 : ((m : Int) - (a : Int) == 1) = false := by simp; omega
  have hwm : IntKind.i64.wrap ((m : Int) - (a : Int)) = (m : Int) - (a : Int) := by rw [IntKind.wrap_i64]; omega
  have hm2 : ((b : Int) - (m : Int) == 1) = false := by simp; omega
  have hwb : IntKind.i64.wrap ((b : Int) - (m : Int)) = (b : Int) - (m : Int) := by rw [IntKind.wrap_i64]; omega
  have em : ((a : Int) + (b : Int)) / 2 = (mid : Int) := by omega
  have hm3 : a < mid := by omega
  have hm4 : mid < b := by omega
  have ham2 : a < m := by omega
  have hmb2 : m < b := by omega
  have HSE := hid (fun (s : Nat) (hf : Found l a m b mid a m s) (l1 : List Jb) (he : ∀ k, gt l1 k = rotF (gt l) s m (mid + m - s) k) => halves hs1 hs2 ham2 hmb2 hmid (lo := a) (hi := m) (by rw [if_neg (by omega)]) (by rw [if_neg (by omega)]) hf he)
  have HBG := hid hbig
  have HMD := hid hmid
  have hmm : mid + m ≤ a + b + m := by omega
  have hlo1 : a ≤ m := by omega
  have hlo2 : a ≤ a := by omega
  have hhi1 : m ≤ m := by omega
  have hhi2 : m ≤ mid := by omega
  have hlo3 : mid + m ≤ b + a := by omega
  obtain ⟨lo, hlo⟩ : ∃ x, x = a := ⟨_, rfl⟩
  obtain ⟨hi, hhi⟩ : ∃ x, x = m := ⟨_, rfl⟩
  rw [← hlo] at HSE hlo1 hlo2 hlo3
  rw [← hhi] at HSE hlo1 hhi1 hhi2
  replace hlo := hlo.symm
  replace hhi := hhi.symm
  subst hlo
  subst hhi
  have hcd2 : ¬ (mid : Int) < (m : Int) := by omega
  clear h hK hn hb hl hs1 hs2 hbig hmid hF
  go_enter Try.func89, Try.ntmps89
  go_wp2_with fail
  go_loopw [20, 21] (fun vi vj wr => ∃ (i j : Nat), a ≤ i ∧ i ≤ j ∧ j ≤ m ∧ vi = .int .i64 i ∧ vj = .int .i64 j ∧ OwnJ wr B (vS g n cap) l ∧ w.grownBy wr (some g) ∧ Hid (a < i → sc l (i - 1) ≤ sc l (mid + m - i)) ∧ Hid (j < m → sc l (mid + m - j - 1) ≤ sc l j)) (fun vi vj _ => (intOf vj).toNat - (intOf vi).toNat)
  case atStart => exact ⟨a, m, by omega, by omega, by omega, by first | (go_num; done) | (congr 1; omega), by first | (go_num; done) | (congr 1; omega), HO.out, grown_refl _ _, (fun h => absurd h (Nat.lt_irrefl _) : a < a → _), (fun h => absurd h (Nat.lt_irrefl _) : m < m → _)⟩
  case round =>
    obtain ⟨i, j, hi1, hij, hj1, rfl, rfl, ho, hg, H1, H2⟩ := hrel
    have HO1 := hid ho
    have HG1 := hid hg
    clear ho hg
    by_cases hlt : i < j
    · obtain ⟨q, hq⟩ : ∃ q, q = (i + j) / 2 := ⟨_, rfl⟩
      have eq1 : ((i : Int) + (j : Int)) / 2 = (q : Int) := by omega
      have hq1 : i ≤ q := by omega
      have hq2 : q < j := by omega
      have hqn : (q : Int) < (n : Int) := by omega
      obtain ⟨p, hp⟩ : ∃ p, p = mid + m - 1 - q := ⟨_, rfl⟩
      have ix1 : (0 : Int) ≤ (mid : Int) + (m : Int) - 1 - (q : Int) := by omega
      have ix2 : (mid : Int) + (m : Int) - 1 - (q : Int) < (n : Int) := by omega
      have ix3 : ((mid : Int) + (m : Int) - 1 - (q : Int)).toNat = p := by omega
      have epw : IntKind.i64.wrap ((mid : Int) + (m : Int) - 1 - (q : Int)) = (mid : Int) + (m : Int) - 1 - (q : Int) := by rw [IntKind.wrap_i64]; omega
      have hpn : p < n := by omega
      have ix4 : (q : Int) ≤ (mid : Int) + (m : Int) - 1 := by omega
      have ix5 : ¬ ((mid : Int) + (m : Int) - 1 - (q : Int) < 0) := by omega
      have ix6 : ¬ ((n : Int) ≤ (mid : Int) + (m : Int) - 1 - (q : Int)) := by omega
      have ix7 : ¬ ((mid : Int) + (m : Int) - 1 < (q : Int)) := by omega
      have HP := hid hp
      clear hq hp
      obtain ⟨cx, cy, c, hcx, hcy, HCI, l1, l2, hcm⟩ := cmp_ready K HK.out HO1.out p q (by have := HN.out; omega) (by have := HN.out; omega)
      by_cases hlv : c < 0
      · go_wp2_with fail
        go_quiet_grown (first | (go_at_call 47; refine Calls.grown_of (hcm _ _)))
        go_wp2_with fail
        have HO3 := hid (own_grow HO1.out nq osq)
        have HG3 := hid (grown_grow wr nq osq (some g))
        generalize grow (wr.drewN nq) osq = w3 at *
        clear l1 l2 hcm
        go_roundw
        case rel =>
          refine ⟨i, q, by omega, by omega, by omega, rfl, by go_num, HO3.out, HG1.out.trans HG3.out, H1, (fun _ => ?_ : q < m → sc l (mid + m - q - 1) ≤ sc l q)⟩
          have := HCI.out.1 hlv
          have e := HP.out
          rw [show mid + m - q - 1 = p by omega]; omega
        case measure => simp [intOf]; omega
      · have HLV := hid (fun h : c < 0 => hlv h)
        have hlv2 : decide (c < 0) = false := decide_eq_false hlv
        have hlv3 : (!decide (c < 0)) = true := by rw [hlv2]; rfl
        go_wp2_with fail
        go_quiet_grown (first | (go_at_call 47; refine Calls.grown_of (hcm _ _)))
        go_wp2_with fail
        have HO3 := hid (own_grow HO1.out nq osq)
        have HG3 := hid (grown_grow wr nq osq (some g))
        generalize grow (wr.drewN nq) osq = w3 at *
        clear l1 l2 hcm
        go_roundw
        case rel =>
          refine ⟨q + 1, j, by omega, by omega, by omega, by go_num, rfl, HO3.out, HG1.out.trans HG3.out, (fun _ => ?_ : a < q + 1 → sc l (q + 1 - 1) ≤ sc l (mid + m - (q + 1))), H2⟩
          have h6 : ¬ sc l p < sc l q := fun h => HLV.out (HCI.out.2 h)
          have e := HP.out
          rw [Nat.add_sub_cancel, show mid + m - (q + 1) = p by omega]; omega
        case measure => simp [intOf]; omega
    · obtain rfl : i = j := by omega
      obtain ⟨e, he⟩ : ∃ e, e = mid + m - i := ⟨_, rfl⟩
      have hfd := hid (show Found l a m b mid a m i from ⟨hi1, hj1, H1.out, H2.out⟩)
      have HV : Hid (Hv g n cap B a m b mid i e l) := by
        have o := HSE.out i hfd.out
        have e1 := HN.out
        exact (⟨e1, by omega, ham2, hmb2, by omega, HBG.out, HMD.out, he, by omega, fun l1 hl1 => (o l1 hl1).2.2.2.2.2.2⟩ : Hv g n cap B a m b mid i e l)
      have ee : (mid : Int) + (m : Int) - (i : Int) = (e : Int) := by omega
      have eew : IntKind.i64.wrap ((mid : Int) + (m : Int) - (i : Int)) = (e : Int) := by rw [IntKind.wrap_i64]; omega
      have r1 : i ≤ m := by omega
      have r2 : i ≤ mid := by omega
      have r3 : e = mid + m - i := he
      have RE := hid he
      have rx : (mid < e ↔ i < m) ∧ (m < e ↔ i < mid) := by omega
      obtain ⟨rx1, rx2⟩ := rx
      clear r3 he
      by_cases hX : i < m
      · by_cases hY : i < mid
        · by_cases hA : a < i
          · by_cases hQ : e < b
            · have hX2 :  (mid : Nat) < e := by omega
              have hY2 :  (m : Nat) < e := by omega
              clear rx1 rx2
              go_wp2_with (first | (go_at_call 101; refine (HV.out.rot HO1.out HG1.out (by omega) (by omega)).mono ?_; rintro r w1 ⟨rfl, l1, hs1⟩; have HS1 := hid hs1; clear hs1) | (go_at_call 89; have hc := HV.out.two HF.out HS2.out (by omega) (by omega); (with_reducible refine hc.mono ?_); rintro r w3 hs3; have hr := hs3.1; subst hr; have HS3 := hid hs3; clear hs3 hc) | (go_at_call 89; have hc := HV.out.one HF.out HS1.out (by omega) (by omega); (with_reducible refine hc.mono ?_); rintro r w2 ⟨rfl, l2, hs2⟩; have HS2 := hid hs2; clear hs2 hc))
              go_end0
              exact HS3.out
            · have hX2 :  (mid : Nat) < e := by omega
              have hY2 :  (m : Nat) < e := by omega
              clear rx1 rx2
              go_wp2_with (first | (go_at_call 101; refine (HV.out.rot HO1.out HG1.out (by omega) (by omega)).mono ?_; rintro r w1 ⟨rfl, l1, hs1⟩; have HS1 := hid hs1; clear hs1) | (go_at_call 89; have hc := HV.out.one HF.out HS1.out (by omega) (by omega); (with_reducible refine hc.mono ?_); rintro r w2 ⟨rfl, l2, hs2⟩; have HS2 := hid hs2; clear hs2 hc))
              go_end0
              exact HV.out.two_not HS2.out (by omega)
          · by_cases hQ : e < b
            · have hX2 :  (mid : Nat) < e := by omega
              have hY2 :  (m : Nat) < e := by omega
              clear rx1 rx2
              go_wp2_with (first | (go_at_call 101; refine (HV.out.rot HO1.out HG1.out (by omega) (by omega)).mono ?_; rintro r w1 ⟨rfl, l1, hs1⟩; have HS1 := hid hs1; clear hs1; have HS2 := hid (HV.out.one_not HS1.out (by omega))) | (go_at_call 89; have hc := HV.out.two HF.out HS2.out (by omega) (by omega); (with_reducible refine hc.mono ?_); rintro r w3 hs3; have hr := hs3.1; subst hr; have HS3 := hid hs3; clear hs3 hc))
              go_end0
              exact HS3.out
            · have hX2 :  (mid : Nat) < e := by omega
              have hY2 :  (m : Nat) < e := by omega
              clear rx1 rx2
              go_wp2_with (first | (go_at_call 101; refine (HV.out.rot HO1.out HG1.out (by omega) (by omega)).mono ?_; rintro r w1 ⟨rfl, l1, hs1⟩; have HS1 := hid hs1; clear hs1; have HS2 := hid (HV.out.one_not HS1.out (by omega))))
              go_end0
              exact HV.out.two_not HS2.out (by omega)
        · by_cases hA : a < i
          · by_cases hQ : e < b
            · have hX2 :  (mid : Nat) < e := by omega
              have hY2 : ¬ (m : Nat) < e := by omega
              clear rx1 rx2
              have HS1 := hid (HV.out.rot_not HO1.out HG1.out (by omega))
              have HS2 := hid (HV.out.one_not HS1.out (by omega))
              go_wp2_with (first | (go_at_call 89; have hc := HV.out.two HF.out HS2.out (by omega) (by omega); (with_reducible refine hc.mono ?_); rintro r w3 hs3; have hr := hs3.1; subst hr; have HS3 := hid hs3; clear hs3 hc))
              go_end0
              exact HS3.out
            · have hX2 :  (mid : Nat) < e := by omega
              have hY2 : ¬ (m : Nat) < e := by omega
              clear rx1 rx2
              have HS1 := hid (HV.out.rot_not HO1.out HG1.out (by omega))
              have HS2 := hid (HV.out.one_not HS1.out (by omega))
              go_wp2_with (fail)
              go_end0
              exact HV.out.two_not HS2.out (by omega)
          · by_cases hQ : e < b
            · have hX2 :  (mid : Nat) < e := by omega
              have hY2 : ¬ (m : Nat) < e := by omega
              clear rx1 rx2
              have HS1 := hid (HV.out.rot_not HO1.out HG1.out (by omega))
              have HS2 := hid (HV.out.one_not HS1.out (by omega))
              go_wp2_with (first | (go_at_call 89; have hc := HV.out.two HF.out HS2.out (by omega) (by omega); (with_reducible refine hc.mono ?_); rintro r w3 hs3; have hr := hs3.1; subst hr; have HS3 := hid hs3; clear hs3 hc))
              go_end0
              exact HS3.out
            · have hX2 :  (mid : Nat) < e := by omega
              have hY2 : ¬ (m : Nat) < e := by omega
              clear rx1 rx2
              have HS1 := hid (HV.out.rot_not HO1.out HG1.out (by omega))
              have HS2 := hid (HV.out.one_not HS1.out (by omega))
              go_wp2_with (fail)
              go_end0
              exact HV.out.two_not HS2.out (by omega)
      · by_cases hY : i < mid
        · by_cases hA : a < i
          · by_cases hQ : e < b
            · have hX2 : ¬ (mid : Nat) < e := by omega
              have hY2 :  (m : Nat) < e := by omega
              clear rx1 rx2
              have HS1 := hid (HV.out.rot_not HO1.out HG1.out (by omega))
              go_wp2_with (first | (go_at_call 89; have hc := HV.out.one HF.out HS1.out (by omega) (by omega); (with_reducible refine hc.mono ?_); rintro r w2 ⟨rfl, l2, hs2⟩; have HS2 := hid hs2; clear hs2 hc))
              go_end0
              exact HV.out.two_not HS2.out (by omega)
            · have hX2 : ¬ (mid : Nat) < e := by omega
              have hY2 :  (m : Nat) < e := by omega
              clear rx1 rx2
              have HS1 := hid (HV.out.rot_not HO1.out HG1.out (by omega))
              go_wp2_with (first | (go_at_call 89; have hc := HV.out.one HF.out HS1.out (by omega) (by omega); (with_reducible refine hc.mono ?_); rintro r w2 ⟨rfl, l2, hs2⟩; have HS2 := hid hs2; clear hs2 hc))
              go_end0
              exact HV.out.two_not HS2.out (by omega)
          · by_cases hQ : e < b
            · have hX2 : ¬ (mid : Nat) < e := by omega
              have hY2 :  (m : Nat) < e := by omega
              clear rx1 rx2
              have HS1 := hid (HV.out.rot_not HO1.out HG1.out (by omega))
              have HS2 := hid (HV.out.one_not HS1.out (by omega))
              go_wp2_with (fail)
              go_end0
              exact HV.out.two_not HS2.out (by omega)
            · have hX2 : ¬ (mid : Nat) < e := by omega
              have hY2 :  (m : Nat) < e := by omega
              clear rx1 rx2
              have HS1 := hid (HV.out.rot_not HO1.out HG1.out (by omega))
              have HS2 := hid (HV.out.one_not HS1.out (by omega))
              go_wp2_with (fail)
              go_end0
              exact HV.out.two_not HS2.out (by omega)
        · by_cases hA : a < i
          · by_cases hQ : e < b
            · have hX2 : ¬ (mid : Nat) < e := by omega
              have hY2 : ¬ (m : Nat) < e := by omega
              clear rx1 rx2
              have HS1 := hid (HV.out.rot_not HO1.out HG1.out (by omega))
              have HS2 := hid (HV.out.one_not HS1.out (by omega))
              go_wp2_with (fail)
              go_end0
              exact HV.out.two_not HS2.out (by omega)
            · have hX2 : ¬ (mid : Nat) < e := by omega
              have hY2 : ¬ (m : Nat) < e := by omega
              clear rx1 rx2
              have HS1 := hid (HV.out.rot_not HO1.out HG1.out (by omega))
              have HS2 := hid (HV.out.one_not HS1.out (by omega))
              go_wp2_with (fail)
              go_end0
              exact HV.out.two_not HS2.out (by omega)
          · by_cases hQ : e < b
            · have hX2 : ¬ (mid : Nat) < e := by omega
              have hY2 : ¬ (m : Nat) < e := by omega
              clear rx1 rx2
              have HS1 := hid (HV.out.rot_not HO1.out HG1.out (by omega))
              have HS2 := hid (HV.out.one_not HS1.out (by omega))
              go_wp2_with (fail)
              go_end0
              exact HV.out.two_not HS2.out (by omega)
            · have hX2 : ¬ (mid : Nat) < e := by omega
              have hY2 : ¬ (m : Nat) < e := by omega
              clear rx1 rx2
              have HS1 := hid (HV.out.rot_not HO1.out HG1.out (by omega))
              have HS2 := hid (HV.out.one_not HS1.out (by omega))
              go_wp2_with (fail)
              go_end0
              exact HV.out.two_not HS2.out (by omega)
end PlayC
end Go.Proofs.Ytpnahhpkaegeeaa

/- Contracts: symMergeCmpFunc of jobs (written by gen_srt.py). -/
set_option linter.unusedVariables false
namespace Go.Proofs.Ytpnahhpkaegeeaa
open Go.RowKit hiding tok
open Go.Shelf Go.Sort
open SpanM SpanC PlayM
namespace PlayC
open RowG
theorem merge_any (g n cap B : Nat) : ∀ N, Fewer g n cap B N := by
  intro N
  induction N with
  | zero => intro a m b l w h; omega
  | succ N ih =>
    intro a m b l w h ho hn ham hmb hb hl hs1 hs2
    by_cases c1 : m = a + 1
    · exact merge_low g n cap B a m b l w ho hn c1 hmb hb hl hs2
    · by_cases c2 : b = m + 1
      · exact merge_high g n cap B a m b l w ho hn (by omega) c2 hb hl hs1
      · have hF : Fewer g n cap B (b - a) := fun a' m' b' l' w' h' => ih a' m' b' l' w' (by omega)
        by_cases c3 : (a + b) / 2 < m
        · exact merge_gt g n cap B a m b _ l w ho hn (by omega) hb hl hs1 hs2 rfl c3 hF
        · exact merge_le g n cap B a m b _ l w ho hn (by omega) hb hl hs1 hs2 rfl (by omega) hF
end PlayC
end Go.Proofs.Ytpnahhpkaegeeaa

/- Contracts: stableCmpFunc and SortStableFunc of jobs. -/
set_option linter.unusedVariables false
namespace Go.Proofs.Ytpnahhpkaegeeaa
open Go.RowKit hiding tok
open Go.Shelf Go.Sort
open SpanM SpanC PlayM
namespace PlayC
open RowG
/-- each block of S is sorted, from lo to hi -/
def Blk (l : List Jb) (S lo hi : Nat) : Prop := ∀ i j, lo ≤ i → i ≤ j → j < hi → i / S = j / S → sc l i ≤ sc l j
theorem Blk.zero (l : List Jb) (S : Nat) : Blk l S 0 0 := fun i j _ _ h _ => by omega
theorem Blk.next {l l' : List Jb} {S q e : Nat} (hS : 0 < S) (h : Blk l S 0 (q * S)) (r : Rg (q * S) e l l') (s : Srt l' (q * S) e) : Blk l' S 0 e := by
  intro i j h0 h1 h2 h3
  by_cases c1 : j < q * S
  · have := h i j h0 h1 c1 h3
    unfold sc at *
    rw [r.out i (by omega), r.out j (by omega)]; exact this
  · by_cases c2 : q * S ≤ i
    · exact s i j c2 h1 h2
    · have a1 : i / S < q := (Nat.div_lt_iff_lt_mul hS).2 (by omega)
      have a2 : q ≤ j / S := (Nat.le_div_iff_mul_le hS).2 (by omega)
      omega
theorem Blk.out {l l' : List Jb} {S a b lo hi : Nat} (h : Blk l S lo hi) (r : Rg a b l l') (hb : b ≤ lo) : Blk l' S lo hi := by
  intro i j h0 h1 h2 h3
  have := h i j h0 h1 h2 h3
  unfold sc at *
  rw [r.out i (by omega), r.out j (by omega)]; exact this
theorem Blk.more {l : List Jb} {S lo lo' hi : Nat} (h : Blk l S lo hi) (hl : lo ≤ lo') : Blk l S lo' hi := fun i j h0 h1 h2 h3 => h i j (by omega) h1 h2 h3
theorem Blk.srt {l : List Jb} {S lo hi q e : Nat} (h : Blk l S lo hi) (h1 : lo ≤ q * S) (h2 : e ≤ q * S + S) (h3 : e ≤ hi) : Srt l (q * S) e := by
  intro i j a1 a2 a3
  refine h i j (by omega) a2 (by omega) ?_
  have e1 : i / S = q := Nat.div_eq_of_lt_le (by omega) (by rw [Nat.add_mul]; omega)
  have e2 : j / S = q := Nat.div_eq_of_lt_le (by omega) (by rw [Nat.add_mul]; omega)
  omega
theorem Blk.all {l : List Jb} {S n : Nat} (h : Blk l S 0 n) (hn : n ≤ S) : Srt l 0 n := by
  intro i j a1 a2 a3
  refine h i j a1 a2 a3 ?_
  rw [Nat.div_eq_of_lt (by omega), Nat.div_eq_of_lt (by omega)]
set_option maxRecDepth 20000 in
set_option maxHeartbeats 3200000 in
theorem stable_any (g n cap B : Nat) (l : List Jb) (w : World) (h : OwnJ w B (vS g n cap) l) (hn : n = l.length) (hl : l.length ≤ 4000) :
    Calls Try.prog 70 #[vS g n cap, .int .i64 n, vC] w fun e w' => e = .returned (.tuple #[]) ∧ ∃ l', OwnJ w' B (vS g n cap) l' ∧ w.grownBy w' (some g) ∧ l'.Perm l ∧ Srt l' 0 n := by
  have HO := hid h
  have HN := hid hn
  have hnl : n ≤ 4000 := by omega
  clear h hn hl
  go_enter Try.func70, Try.ntmps70
  go_wp2_with fail
  go_loopw [7, 8] (fun va vb wr => ∃ (q a : Nat) (li : List Jb), a ≤ n ∧ va = .int .i64 a ∧ vb = .int .i64 (a + 20 : Nat) ∧ Hid (a = q * 20) ∧ OwnJ wr B (vS g n cap) li ∧ w.grownBy wr (some g) ∧ li.Perm l ∧ Blk li 20 0 a) (fun va _ _ => n - (intOf va).toNat)
  case atStart => exact ⟨0, 0, l, by omega, rfl, rfl, rfl, HO.out, grown_refl _ _, .refl _, Blk.zero _ _⟩
  case round =>
    obtain ⟨q, a, li, ha, rfl, rfl, HA, ho, hg, hp, hb⟩ := hrel
    have HO1 := hid ho
    have HG1 := hid hg
    have HP1 := hid hp
    have HB1 := hid hb
    have HLI := hid (show n = li.length by rw [hp.length_eq]; exact HN.out)
    clear ho hg hp hb
    obtain ⟨b, hbe⟩ : ∃ b, b = a + 20 := ⟨_, rfl⟩
    rw [← hbe]
    have HBE := hid hbe
    have hb1 : a < b := by omega
    have hb2 : b ≤ 4020 := by omega
    clear hbe
    by_cases hbn : b ≤ n
    · have hI := hid (insertion_any g n cap B a b li wr HO1.out HLI.out (by omega) (by have := HLI.out; omega) (by have := HLI.out; omega))
      go_wp2_with (first | (go_at_call 88; refine hI.out.mono ?_; rintro e w1 ⟨rfl, l1, ho1, hg1, hr1, hs1⟩; have HO2 := hid ho1; have HG2 := hid hg1; have HR2 := hid hr1; have HS2 := hid hs1; clear ho1 hg1 hr1 hs1))
      go_roundw
      case rel =>
        have e1 := HBE.out
        have e2 := HA.out
        refine ⟨q + 1, b, l1, by omega, rfl, by go_num, (show b = (q + 1) * 20 by omega), HO2.out, HG1.out.trans HG2.out, HR2.out.perm.trans HP1.out, ?_⟩
        refine Blk.next (q := q) (by omega) (by rw [← e2]; exact HB1.out) (by rw [← e2]; exact HR2.out) (by rw [← e2]; exact HS2.out)
      case measure => have := HBE.out; simp [intOf]; omega
    · have hI := hid (insertion_any g n cap B a n li wr HO1.out HLI.out (by omega) (by have := HLI.out; omega) (by have := HLI.out; omega))
      go_wp2_with (first | (go_at_call 88; refine hI.out.mono ?_; rintro e w1 ⟨rfl, l1, ho1, hg1, hr1, hs1⟩; have HO2 := hid ho1; have HG2 := hid (HG1.out.trans hg1); have HP2 := hid (hr1.perm.trans HP1.out); have HB2 := hid (Blk.next (S := 20) (q := q) (by omega) (by rw [← HA.out]; exact HB1.out) (by rw [← HA.out]; exact hr1) (by rw [← HA.out]; exact hs1)); clear ho1 hg1 hr1 hs1))
      clear hI
      go_loopw [6, 7, 8] (fun vs va vb wr => ∃ (s : Nat) (li : List Jb), 20 ≤ s ∧ s ≤ 8000 ∧ vs = .int .i64 s ∧ OwnJ wr B (vS g n cap) li ∧ w.grownBy wr (some g) ∧ li.Perm l ∧ Blk li s 0 n) (fun vs _ _ _ => 8001 - (intOf vs).toNat)
      case atStart => exact ⟨20, l1, by omega, by omega, rfl, HO2.out, HG2.out, HP2.out, HB2.out⟩
      case round =>
        obtain ⟨s, li2, hs1, hs2, rfl, ho, hg, hp, hb⟩ := hrel
        have HO3 := hid ho
        have HG3 := hid hg
        have HP3 := hid hp
        have HB3 := hid hb
        clear ho hg hp hb
        by_cases hsn : s < n
        · go_wp2_with fail
          obtain ⟨w0, hw0⟩ : ∃ x, x = wr := ⟨_, rfl⟩
          subst hw0
          go_loopw [7, 8] (fun va vb wr => ∃ (q a : Nat) (li : List Jb), a ≤ n ∧ va = .int .i64 a ∧ vb = .int .i64 (a + 2 * s : Nat) ∧ Hid (a = q * (2 * s)) ∧ OwnJ wr B (vS g n cap) li ∧ w.grownBy wr (some g) ∧ li.Perm l ∧ Blk li (2 * s) 0 a ∧ Blk li s a n) (fun va _ _ => n - (intOf va).toNat)
          case atStart => exact ⟨0, 0, li2, by omega, rfl, by go_num, (show 0 = 0 * (2 * s) by omega), HO3.out, HG3.out, HP3.out, Blk.zero _ _, HB3.out⟩
          case round =>
            obtain ⟨q, a, lj, ha, rfl, rfl, HA2, ho, hg, hp, hb, hb'⟩ := hrel
            have HO4 := hid ho
            have HG4 := hid hg
            have HP4 := hid hp
            have HB4 := hid hb
            have HB5 := hid hb'
            have HLJ := hid (show n = lj.length by rw [hp.length_eq]; exact HN.out)
            clear ho hg hp hb hb'
            obtain ⟨b, hbe⟩ : ∃ b, b = a + 2 * s := ⟨_, rfl⟩
            rw [← hbe]
            have HBE := hid hbe
            obtain ⟨c, hce⟩ : ∃ c, c = a + s := ⟨_, rfl⟩
            have ec : (a : Int) + (s : Int) = (c : Int) := by omega
            have HCE := hid hce
            have hac : a < c := by omega
            have hcb : c < b := by omega
            have hb2 : b ≤ 12000 := by omega
            have HQ := hid (show a = (2 * q) * s by rw [HA2.out, Nat.mul_comm 2 q, Nat.mul_assoc])
            have HQ2 := hid (show c = (2 * q + 1) * s by rw [hce, HQ.out, Nat.add_mul]; omega)
            clear hbe hce
            by_cases hbn : b ≤ n
            · have hs1' : Srt lj a c := by
                have e := HQ.out
                have := HB5.out.srt (q := 2 * q) (e := c) (by omega) (by have := HCE.out; omega) (by omega)
                rw [← e] at this; exact this
              have hs2' : Srt lj c b := by
                have e := HQ2.out
                have := HB5.out.srt (q := 2 * q + 1) (e := b) (by omega) (by have := HCE.out; have := HBE.out; omega) (by omega)
                rw [← e] at this; exact this
              have hM := hid (merge_any g n cap B (b - a + 1) a c b lj wr (by omega) HO4.out HLJ.out hac hcb (by have := HLJ.out; omega) (by have := HLJ.out; omega) hs1' hs2')
              clear hs1' hs2'
              go_wp2_with (first | (go_at_call 89; refine hM.out.mono ?_; rintro e w1 ⟨rfl, l1, ho1, hg1, hr1, hs1⟩; have HO5 := hid ho1; have HG5 := hid hg1; have HR5 := hid hr1; have HS5 := hid hs1; clear ho1 hg1 hr1 hs1))
              go_roundw
              case rel =>
                have e1 := HBE.out
                have e2 := HA2.out
                refine ⟨q + 1, b, _, by omega, rfl, by go_num, (show b = (q + 1) * (2 * s) by rw [Nat.add_mul]; omega), HO5.out, HG4.out.trans HG5.out, HR5.out.perm.trans HP4.out, ?_, ?_⟩
                · exact Blk.next (q := q) (by omega) (by rw [← e2]; exact HB4.out) (by rw [← e2]; exact HR5.out) (by rw [← e2]; exact HS5.out)
                · exact (HB5.out.more (by omega)).out HR5.out (Nat.le_refl _)
              case measure => have := HBE.out; simp [intOf]; omega
            · by_cases hcn : c < n
              · have hs1' : Srt lj a c := by
                  have e := HQ.out
                  have := HB5.out.srt (q := 2 * q) (e := c) (by omega) (by have := HCE.out; omega) (by omega)
                  rw [← e] at this; exact this
                have hs2' : Srt lj c n := by
                  have e := HQ2.out
                  have := HB5.out.srt (q := 2 * q + 1) (e := n) (by omega) (by have := HCE.out; have := HBE.out; omega) (by omega)
                  rw [← e] at this; exact this
                have hM := hid (merge_any g n cap B (n - a + 1) a c n lj wr (by omega) HO4.out HLJ.out hac hcn (by have := HLJ.out; omega) (by have := HLJ.out; omega) hs1' hs2')
                clear hs1' hs2'
                go_wp2_with (first | (go_at_call 89; refine hM.out.mono ?_; rintro e w1 ⟨rfl, l1, ho1, hg1, hr1, hs1⟩; have HO5 := hid ho1; have HG5 := hid hg1; have HR5 := hid hr1; have HS5 := hid hs1; clear ho1 hg1 hr1 hs1))
                go_roundw
                case rel =>
                  have e2 := HA2.out
                  refine ⟨2 * s, _, by omega, by omega, by first | go_num | (congr 1; omega), HO5.out, HG4.out.trans HG5.out, HR5.out.perm.trans HP4.out, ?_⟩
                  exact Blk.next (q := q) (by omega) (by rw [← e2]; exact HB4.out) (by rw [← e2]; exact HR5.out) (by rw [← e2]; exact HS5.out)
                case measure => simp [intOf]; omega
              · have hs1' : Srt lj a n := by
                  have e := HQ.out
                  have := HB5.out.srt (q := 2 * q) (e := n) (by omega) (by have := HCE.out; omega) (by omega)
                  rw [← e] at this; exact this
                have HS5 := hid hs1'
                clear hs1'
                go_wp2_with fail
                go_roundw
                case rel =>
                  have e2 := HA2.out
                  refine ⟨2 * s, lj, by omega, by omega, by first | go_num | (congr 1; omega), HO4.out, HG4.out, HP4.out, ?_⟩
                  exact Blk.next (q := q) (by omega) (by rw [← e2]; exact HB4.out) (Rg.refl _ _ _) (by rw [← e2]; exact HS5.out)
                case measure => simp [intOf]; omega
        · go_wp2_with fail
          go_end0
          exact ⟨rfl, li2, HO3.out, HG3.out, HP3.out, HB3.out.all (by omega)⟩
theorem insertion_nil (w : World) : Calls Try.prog 88 #[.slice none 0 0, .int .i64 0, .int .i64 0, vC] w fun e w' => e = .returned (.tuple #[]) ∧ w' = w := by
  go_enter Try.func88, Try.ntmps88
  go_wp2
  go_rounds 1
  go_end0
  exact ⟨rfl, rfl⟩
theorem stable_nil (w : World) : Calls Try.prog 70 #[.slice none 0 0, .int .i64 0, vC] w fun e w' => e = .returned (.tuple #[]) ∧ w' = w := by
  go_enter Try.func70, Try.ntmps70
  go_wp2_with fail
  refine wp_loop_rounds 1 ?_
  rw [rounds_succ]
  go_wp2_with (first | (go_at_call 88; refine (insertion_nil _).mono ?_; rintro e w' ⟨rfl, hw⟩; replace hw := hw.symm; subst hw))
  refine wp_loop_rounds 1 ?_
  rw [rounds_succ]
  go_wp2_with fail
  go_end0
  exact ⟨rfl, rfl⟩
/-- sorted by when they come -/
def Sorted (l : List Jb) : Prop := ∀ i j, i ≤ j → j < l.length → sc l i ≤ sc l j
theorem sort_any (v : Value) (B : Nat) (l : List Jb) (w : World) (h : OwnJ w B v l) (hl : l.length ≤ 4000) :
    Calls Try.prog 46 #[v, vC] w fun e w' => e = .returned (.tuple #[]) ∧ ∃ l', OwnJ w' B v l' ∧ w.grownBy w' v.ownBlock ∧ l'.Perm l ∧ Sorted l' := by
  rcases h.form with ⟨rfl, rfl⟩ | ⟨g, cap, rfl, hb, hg, h1, h2⟩
  · have HS := hid (stable_nil w)
    have HO := hid h
    clear h hl
    go_enter Try.func46, Try.ntmps46
    go_wp2_with (first | (go_at_call 70; refine HS.out.mono ?_; rintro e w' ⟨rfl, hw⟩; replace hw := hw.symm; subst hw))
    go_end0
    exact ⟨rfl, [], HO.out, grown_refl _ _, .refl _, fun i j _ h => by simp at h⟩
  · have HS := hid (stable_any g l.length cap B l w h rfl hl)
    have hl2 := hl
    generalize l.length = n at *
    clear h hl h1 h2 hb hg
    go_enter Try.func46, Try.ntmps46
    go_wp2_with (first | (go_at_call 70; refine HS.out.mono ?_; rintro e w' ⟨rfl, l', ho, hg, hp, hs⟩; have HO := hid ho; have HG := hid hg; have HP := hid hp; have HT := hid hs; clear ho hg hp hs))
    go_end0
    refine ⟨rfl, l', HO.out, HG.out, HP.out, fun i j h1 h2 => HT.out i j (Nat.zero_le _) h1 ?_⟩
    obtain ⟨a, c, e⟩ := HO.out.slice
    simp at e
    omega
end PlayC
end Go.Proofs.Ytpnahhpkaegeeaa
