/- Contracts: symMergeCmpFunc of jobs (written by gen_srt.py). -/
import Derived.Test.YtgplaoojimpbaaaSrtC
set_option linter.unusedVariables false
namespace Go.Proofs.Ytgplaoojimpbaaa
open Go.RowKit hiding tok
open Go.Shelf Go.Sort
open SpanM SpanC PlayM
namespace PlayC
open RowG
/-- behind the exchange -/
def St1 (g n cap B a m b mid s : Nat) (l : List Jb) (w w1 : World) (l1 : List Jb) : Prop :=
  OwnJ w1 B (vS g n cap) l1 ∧ w.grownBy w1 (some g) ∧ Rg a b l l1 ∧ (∀ x, gt l1 x = rotF (gt l) s m (mid + m - s) x)
/-- behind the first half -/
def St2 (g n cap B a m b mid s : Nat) (l : List Jb) (w w2 : World) (l2 : List Jb) : Prop :=
  OwnJ w2 B (vS g n cap) l2 ∧ w.grownBy w2 (some g) ∧ ∃ l1, Rg a b l l1 ∧ (∀ x, gt l1 x = rotF (gt l) s m (mid + m - s) x) ∧ Rg a mid l1 l2 ∧ Srt l2 a mid
/-- what is known of the whole, for fewer -/
def Fewer (g n cap B : Nat) (N : Nat) : Prop := ∀ (a m b : Nat) (l : List Jb) (w : World), b - a < N → OwnJ w B (vS g n cap) l → n = l.length → a < m → m < b → b ≤ l.length → l.length ≤ 4000 → Srt l a m → Srt l m b →
  Calls Try.prog 67 #[vS g n cap, .int .i64 a, .int .i64 m, .int .i64 b, vC] w (Merged g n cap B a b l w)
/-- what is known behind the search, and the halves -/
structure Hv (g n cap B a m b mid s e : Nat) (l : List Jb) : Prop where
  nn : n = l.length
  small : l.length ≤ 4000
  ham : a < m
  hmb : m < b
  hb : b ≤ l.length
  big : a + 2 ≤ m ∧ m + 2 ≤ b
  hmid : mid = (a + b) / 2
  he : e = mid + m - s
  ord : a ≤ s ∧ s ≤ m ∧ m ≤ mid + m - s ∧ mid + m - s ≤ b ∧ s ≤ mid ∧ mid ≤ mid + m - s
  halves : ∀ l1, (∀ k, gt l1 k = rotF (gt l) s m (mid + m - s) k) → Srt l1 a s ∧ Srt l1 s mid ∧ Srt l1 mid (mid + m - s) ∧ Srt l1 (mid + m - s) b ∧ (∀ i j, a ≤ i → i < mid → mid ≤ j → j < b → sc l1 i ≤ sc l1 j)
variable {g n cap B a m b mid s e : Nat} {l : List Jb} {w : World}
theorem Hv.rot (V : Hv g n cap B a m b mid s e l) {w0 : World} (ho : OwnJ w0 B (vS g n cap) l) (hg : w.grownBy w0 (some g)) (h1 : s < m) (h2 : m < e) :
    Calls Try.prog 76 #[vS g n cap, .int .i64 s, .int .i64 m, .int .i64 e, vC] w0 fun r w1 => r = .returned (.tuple #[]) ∧ ∃ l1, St1 g n cap B a m b mid s l w w1 l1 := by
  obtain ⟨o1, o2, o3, o4, o5, o6⟩ := V.ord
  refine (rotate_any g n cap B s m e vC l w0 ho V.nn h1 h2 (by have := V.he; have := V.hb; omega) V.small).mono ?_
  rintro r w1 ⟨rfl, l1, h3, h4, h5, h6⟩
  refine ⟨rfl, l1, h3, hg.trans h4, h5.wide o1 (by have := V.he; omega), ?_⟩
  rw [V.he] at h6; exact h6
theorem Hv.rot_not (V : Hv g n cap B a m b mid s e l) {w0 : World} (ho : OwnJ w0 B (vS g n cap) l) (hg : w.grownBy w0 (some g)) (h : ¬ (s < m ∧ m < e)) : St1 g n cap B a m b mid s l w w0 l := by
  obtain ⟨o1, o2, o3, o4, o5, o6⟩ := V.ord
  refine ⟨ho, hg, Rg.refl _ _ _, fun x => ?_⟩
  have := V.he
  by_cases c : s < m
  · rw [show mid + m - s = m by omega, rot_id2 _ _ _ _ (by omega)]
  · rw [show s = m by omega, rot_id1]
theorem Hv.one (V : Hv g n cap B a m b mid s e l) (F : Fewer g n cap B (b - a)) {w1 : World} {l1 : List Jb} (h : St1 g n cap B a m b mid s l w w1 l1) (h1 : a < s) (h2 : s < mid) :
    Calls Try.prog 67 #[vS g n cap, .int .i64 a, .int .i64 s, .int .i64 mid, vC] w1 fun r w2 => r = .returned (.tuple #[]) ∧ ∃ l2, St2 g n cap B a m b mid s l w w2 l2 := by
  obtain ⟨o1, o2, o3, o4, o5, o6⟩ := V.ord
  obtain ⟨k1, k2, k3, k4⟩ := h
  obtain ⟨v1, v2, v3, v4, v5⟩ := V.halves l1 k4
  have e1 := V.nn; have e2 := V.small; have e3 := V.hmid; have e4 := V.big; have e5 := k3.len; have e6 := V.hb
  refine (F a s mid l1 w1 (by omega) k1 (by omega) h1 h2 (by omega) (by omega) v1 v2).mono ?_
  rintro r w2 ⟨rfl, l2, j1, j2, j3, j4⟩
  exact ⟨rfl, l2, j1, k2.trans j2, l1, k3, k4, j3, j4⟩
theorem Hv.one_not (V : Hv g n cap B a m b mid s e l) {w1 : World} {l1 : List Jb} (h : St1 g n cap B a m b mid s l w w1 l1) (h1 : ¬ (a < s ∧ s < mid)) : St2 g n cap B a m b mid s l w w1 l1 := by
  obtain ⟨o1, o2, o3, o4, o5, o6⟩ := V.ord
  obtain ⟨k1, k2, k3, k4⟩ := h
  obtain ⟨v1, v2, v3, v4, v5⟩ := V.halves l1 k4
  refine ⟨k1, k2, l1, k3, k4, Rg.refl _ _ _, ?_⟩
  by_cases c : a < s
  · rw [show s = mid by omega] at v1; exact v1
  · rw [show s = a by omega] at v2; exact v2
theorem Hv.two (V : Hv g n cap B a m b mid s e l) (F : Fewer g n cap B (b - a)) {w2 : World} {l2 : List Jb} (h : St2 g n cap B a m b mid s l w w2 l2) (h1 : mid < e) (h2 : e < b) :
    Calls Try.prog 67 #[vS g n cap, .int .i64 mid, .int .i64 e, .int .i64 b, vC] w2 fun r w3 => Merged g n cap B a b l w r w3 := by
  obtain ⟨o1, o2, o3, o4, o5, o6⟩ := V.ord
  obtain ⟨k1, k2, l1, k3, k4, k5, k6⟩ := h
  obtain ⟨v1, v2, v3, v4, v5⟩ := V.halves l1 k4
  have e1 := V.nn; have e2 := V.small; have e3 := V.hmid; have e4 := V.big; have e5 := k3.len; have e6 := V.hb; have e7 := V.he; have e8 := k5.len
  have v3' : Srt l2 mid e := by rw [e7]; exact v3.same fun k x1 x2 => k5.out k (by omega)
  have v4' : Srt l2 e b := by rw [e7]; exact v4.same fun k x1 x2 => k5.out k (by omega)
  refine (F mid e b l2 w2 (by omega) k1 (by omega) h1 h2 (by omega) (by omega) v3' v4').mono ?_
  rintro r w3 ⟨rfl, l3, j1, j2, j3, j4⟩
  exact ⟨rfl, l3, j1, k2.trans j2, (k3.trans (k5.wide (Nat.le_refl _) (by omega))).trans (j3.wide (by omega) (Nat.le_refl _)), halves_done (by omega) (by omega) k5 j3 k6 j4 v5⟩
theorem Hv.two_not (V : Hv g n cap B a m b mid s e l) {w2 : World} {l2 : List Jb} (h : St2 g n cap B a m b mid s l w w2 l2) (h1 : ¬ (mid < e ∧ e < b)) : Merged g n cap B a b l w (.returned (.tuple #[])) w2 := by
  obtain ⟨o1, o2, o3, o4, o5, o6⟩ := V.ord
  obtain ⟨k1, k2, l1, k3, k4, k5, k6⟩ := h
  obtain ⟨v1, v2, v3, v4, v5⟩ := V.halves l1 k4
  have e7 := V.he; have e3 := V.hmid; have e4 := V.big
  have v3' : Srt l2 mid (mid + m - s) := v3.same fun k x1 x2 => k5.out k (by omega)
  have v4' : Srt l2 (mid + m - s) b := v4.same fun k x1 x2 => k5.out k (by omega)
  refine ⟨rfl, l2, k1, k2, k3.trans (k5.wide (Nat.le_refl _) (by omega)), halves_done (by omega) (by omega) k5 (Rg.refl _ _ _) k6 ?_ v5⟩
  by_cases c : mid < e
  · rw [show mid + m - s = b by omega] at v3'; exact v3'
  · rw [show mid + m - s = mid by omega] at v4'; exact v4'
set_option maxRecDepth 20000 in
set_option maxHeartbeats 6400000 in
theorem merge_gt (g n cap B a m b mid : Nat) (l : List Jb) (w : World) (h : OwnJ w B (vS g n cap) l) (hn : n = l.length) (hbig : a + 2 ≤ m ∧ m + 2 ≤ b) (hb : b ≤ l.length) (hl : l.length ≤ 4000) (hs1 : Srt l a m) (hs2 : Srt l m b) (hmid : mid = (a + b) / 2) (hcd : mid < m) (hF : Fewer g n cap B (b - a)) :
    Calls Try.prog 67 #[vS g n cap, .int .i64 a, .int .i64 m, .int .i64 b, vC] w (Merged g n cap B a b l w) := by
  obtain ⟨K, hK⟩ : ∃ K : Nat, K = 7 := ⟨7, rfl⟩
  have z72 := sizeK K hK
  have a72 := Try.isAgg72
  have mixed := mixd
  have HK := hid hK
  have HO := hid h
  have HN := hid hn
  have HF := hid hF
  have hnl : n ≤ 4000 := by omega
  have hbn : b ≤ n := by omega
  have hm1 : ((m : Int) - (a : Int) == 1) = false := by simp; omega
  have hwm : IntKind.i64.wrap ((m : Int) - (a : Int)) = (m : Int) - (a : Int) := by rw [IntKind.wrap_i64]; omega
  have hm2 : ((b : Int) - (m : Int) == 1) = false := by simp; omega
  have hwb : IntKind.i64.wrap ((b : Int) - (m : Int)) = (b : Int) - (m : Int) := by rw [IntKind.wrap_i64]; omega
  have em : ((a : Int) + (b : Int)) / 2 = (mid : Int) := by omega
  have hm3 : a < mid := by omega
  have hm4 : mid < b := by omega
  have ham2 : a < m := by omega
  have hmb2 : m < b := by omega
  have HSE := hid (fun (s : Nat) (hf : Found l a m b mid (mid + m - b) mid s) (l1 : List Jb) (he : ∀ k, gt l1 k = rotF (gt l) s m (mid + m - s) k) => halves hs1 hs2 ham2 hmb2 hmid (lo := (mid + m - b)) (hi := mid) (by rw [if_pos (by omega)]) (by rw [if_pos (by omega)]) hf he)
  have HBG := hid hbig
  have HMD := hid hmid
  have hmm : mid + m ≤ a + b + m := by omega
  have hlo1 : (mid + m - b) ≤ mid := by omega
  have hlo2 : a ≤ (mid + m - b) := by omega
  have hhi1 : mid ≤ m := by omega
  have hhi2 : mid ≤ mid := by omega
  have hlo3 : mid + m ≤ b + (mid + m - b) := by omega
  obtain ⟨lo, hlo⟩ : ∃ x, x = (mid + m - b) := ⟨_, rfl⟩
  obtain ⟨hi, hhi⟩ : ∃ x, x = mid := ⟨_, rfl⟩
  rw [← hlo] at HSE hlo1 hlo2 hlo3
  rw [← hhi] at HSE hlo1 hhi1 hhi2
  have es : (mid : Int) + (m : Int) - (b : Int) = (lo : Int) := by omega
  have esw : IntKind.i64.wrap ((mid : Int) + (m : Int) - (b : Int)) = (lo : Int) := by rw [IntKind.wrap_i64]; omega
  have hcd2 : (mid : Int) < (m : Int) := by omega
  have HLO := hid hlo
  replace hhi := hhi.symm
  subst hhi
  clear hlo
  clear h hK hn hb hl hs1 hs2 hbig hmid hF
  go_enter Try.func67, Try.ntmps67
  go_wp2_with fail
  go_loopw [20, 21] (fun vi vj wr => ∃ (i j : Nat), lo ≤ i ∧ i ≤ j ∧ j ≤ mid ∧ vi = .int .i64 i ∧ vj = .int .i64 j ∧ OwnJ wr B (vS g n cap) l ∧ w.grownBy wr (some g) ∧ Hid (lo < i → sc l (i - 1) ≤ sc l (mid + m - i)) ∧ Hid (j < mid → sc l (mid + m - j - 1) ≤ sc l j)) (fun vi vj _ => (intOf vj).toNat - (intOf vi).toNat)
  case atStart => exact ⟨lo, mid, by omega, by omega, by omega, by first | (go_num; done) | (congr 1; omega), by first | (go_num; done) | (congr 1; omega), HO.out, grown_refl _ _, (fun h => absurd h (Nat.lt_irrefl _) : lo < lo → _), (fun h => absurd h (Nat.lt_irrefl _) : mid < mid → _)⟩
  case round =>
    obtain ⟨i, j, hi1, hij, hj1, rfl, rfl, ho, hg, H1, H2⟩ := hrel
    have HO1 := hid ho
    have HG1 := hid hg
    clear ho hg
    by_cases hlt : i < j
    · obtain ⟨q, hq⟩ : ∃ q, q = (i + j) / 2 := ⟨_, rfl⟩
      have eq1 : ((i : Int) + (j : Int)) / 2 = (q : Int) := by omega
      have hq1 : i ≤ q := by omega
      have hq2 : q < j := by omega
      have hqn : (q : Int) < (n : Int) := by omega
      obtain ⟨p, hp⟩ : ∃ p, p = mid + m - 1 - q := ⟨_, rfl⟩
      have ix1 : (0 : Int) ≤ (mid : Int) + (m : Int) - 1 - (q : Int) := by omega
      have ix2 : (mid : Int) + (m : Int) - 1 - (q : Int) < (n : Int) := by omega
      have ix3 : ((mid : Int) + (m : Int) - 1 - (q : Int)).toNat = p := by omega
      have epw : IntKind.i64.wrap ((mid : Int) + (m : Int) - 1 - (q : Int)) = (mid : Int) + (m : Int) - 1 - (q : Int) := by rw [IntKind.wrap_i64]; omega
      have hpn : p < n := by omega
      have ix4 : (q : Int) ≤ (mid : Int) + (m : Int) - 1 := by omega
      have ix5 : ¬ ((mid : Int) + (m : Int) - 1 - (q : Int) < 0) := by omega
      have ix6 : ¬ ((n : Int) ≤ (mid : Int) + (m : Int) - 1 - (q : Int)) := by omega
      have ix7 : ¬ ((mid : Int) + (m : Int) - 1 < (q : Int)) := by omega
      have HP := hid hp
      clear hq hp
      obtain ⟨cx, cy, c, hcx, hcy, HCI, l1, l2, hcm⟩ := cmp_ready K HK.out HO1.out p q (by have := HN.out; omega) (by have := HN.out; omega)
      by_cases hlv : c < 0
      · go_wp2_with fail
        go_quiet_grown (first | (go_at_call 35; refine Calls.grown_of (hcm _ _)))
        go_wp2_with fail
        have HO3 := hid (own_grow HO1.out nq osq)
        have HG3 := hid (grown_grow wr nq osq (some g))
        generalize grow (wr.drewN nq) osq = w3 at *
        clear l1 l2 hcm
        go_roundw
        case rel =>
          refine ⟨i, q, by omega, by omega, by omega, rfl, by go_num, HO3.out, HG1.out.trans HG3.out, H1, (fun _ => ?_ : q < mid → sc l (mid + m - q - 1) ≤ sc l q)⟩
          have := HCI.out.1 hlv
          have e := HP.out
          rw [show mid + m - q - 1 = p by omega]; omega
        case measure => simp [intOf]; omega
      · have HLV := hid (fun h : c < 0 => hlv h)
        have hlv2 : decide (c < 0) = false := decide_eq_false hlv
        have hlv3 : (!decide (c < 0)) = true := by rw [hlv2]; rfl
        go_wp2_with fail
        go_quiet_grown (first | (go_at_call 35; refine Calls.grown_of (hcm _ _)))
        go_wp2_with fail
        have HO3 := hid (own_grow HO1.out nq osq)
        have HG3 := hid (grown_grow wr nq osq (some g))
        generalize grow (wr.drewN nq) osq = w3 at *
        clear l1 l2 hcm
        go_roundw
        case rel =>
          refine ⟨q + 1, j, by omega, by omega, by omega, by go_num, rfl, HO3.out, HG1.out.trans HG3.out, (fun _ => ?_ : lo < q + 1 → sc l (q + 1 - 1) ≤ sc l (mid + m - (q + 1))), H2⟩
          have h6 : ¬ sc l p < sc l q := fun h => HLV.out (HCI.out.2 h)
          have e := HP.out
          rw [Nat.add_sub_cancel, show mid + m - (q + 1) = p by omega]; omega
        case measure => simp [intOf]; omega
    · obtain rfl : i = j := by omega
      obtain ⟨e, he⟩ : ∃ e, e = mid + m - i := ⟨_, rfl⟩
      have hfd := hid (show Found l a m b mid lo mid i from ⟨hi1, hj1, H1.out, H2.out⟩)
      have HV : Hid (Hv g n cap B a m b mid i e l) := by
        have o := HSE.out i hfd.out
        have e1 := HN.out
        exact (⟨e1, by omega, ham2, hmb2, by omega, HBG.out, HMD.out, he, by omega, fun l1 hl1 => (o l1 hl1).2.2.2.2.2.2⟩ : Hv g n cap B a m b mid i e l)
      have ee : (mid : Int) + (m : Int) - (i : Int) = (e : Int) := by omega
      have eew : IntKind.i64.wrap ((mid : Int) + (m : Int) - (i : Int)) = (e : Int) := by rw [IntKind.wrap_i64]; omega
      have r1 : i ≤ m := by omega
      have r2 : i ≤ mid := by omega
      have r3 : e = mid + m - i := he
      have RE := hid he
      have rx : (mid < e ↔ i < m) ∧ (m < e ↔ i < mid) := by omega
      obtain ⟨rx1, rx2⟩ := rx
      clear r3 he
      by_cases hX : i < m
      · by_cases hY : i < mid
        · by_cases hA : a < i
          · by_cases hQ : e < b
            · have hX2 :  (mid : Nat) < e := by omega
              have hY2 :  (m : Nat) < e := by omega
              clear rx1 rx2
              go_wp2_with (first | (go_at_call 76; refine (HV.out.rot HO1.out HG1.out (by omega) (by omega)).mono ?_; rintro r w1 ⟨rfl, l1, hs1⟩; have HS1 := hid hs1; clear hs1) | (go_at_call 67; have hc := HV.out.two HF.out HS2.out (by omega) (by omega); (with_reducible refine hc.mono ?_); rintro r w3 hs3; have hr := hs3.1; subst hr; have HS3 := hid hs3; clear hs3 hc) | (go_at_call 67; have hc := HV.out.one HF.out HS1.out (by omega) (by omega); (with_reducible refine hc.mono ?_); rintro r w2 ⟨rfl, l2, hs2⟩; have HS2 := hid hs2; clear hs2 hc))
              go_end0
              exact HS3.out
            · have hX2 :  (mid : Nat) < e := by omega
              have hY2 :  (m : Nat) < e := by omega
              clear rx1 rx2
              go_wp2_with (first | (go_at_call 76; refine (HV.out.rot HO1.out HG1.out (by omega) (by omega)).mono ?_; rintro r w1 ⟨rfl, l1, hs1⟩; have HS1 := hid hs1; clear hs1) | (go_at_call 67; have hc := HV.out.one HF.out HS1.out (by omega) (by omega); (with_reducible refine hc.mono ?_); rintro r w2 ⟨rfl, l2, hs2⟩; have HS2 := hid hs2; clear hs2 hc))
              go_end0
              exact HV.out.two_not HS2.out (by omega)
          · by_cases hQ : e < b
            · have hX2 :  (mid : Nat) < e := by omega
              have hY2 :  (m : Nat) < e := by omega
              clear rx1 rx2
              go_wp2_with (first | (go_at_call 76; refine (HV.out.rot HO1.out HG1.out (by omega) (by omega)).mono ?_; rintro r w1 ⟨rfl, l1, hs1⟩; have HS1 := hid hs1; clear hs1; have HS2 := hid (HV.out.one_not HS1.out (by omega))) | (go_at_call 67; have hc := HV.out.two HF.out HS2.out (by omega) (by omega); (with_reducible refine hc.mono ?_); rintro r w3 hs3; have hr := hs3.1; subst hr; have HS3 := hid hs3; clear hs3 hc))
              go_end0
              exact HS3.out
            · have hX2 :  (mid : Nat) < e := by omega
              have hY2 :  (m : Nat) < e := by omega
              clear rx1 rx2
              go_wp2_with (first | (go_at_call 76; refine (HV.out.rot HO1.out HG1.out (by omega) (by omega)).mono ?_; rintro r w1 ⟨rfl, l1, hs1⟩; have HS1 := hid hs1; clear hs1; have HS2 := hid (HV.out.one_not HS1.out (by omega))))
              go_end0
              exact HV.out.two_not HS2.out (by omega)
        · by_cases hA : a < i
          · by_cases hQ : e < b
            · have hX2 :  (mid : Nat) < e := by omega
              have hY2 : ¬ (m : Nat) < e := by omega
              clear rx1 rx2
              have HS1 := hid (HV.out.rot_not HO1.out HG1.out (by omega))
              have HS2 := hid (HV.out.one_not HS1.out (by omega))
              go_wp2_with (first | (go_at_call 67; have hc := HV.out.two HF.out HS2.out (by omega) (by omega); (with_reducible refine hc.mono ?_); rintro r w3 hs3; have hr := hs3.1; subst hr; have HS3 := hid hs3; clear hs3 hc))
              go_end0
              exact HS3.out
            · have hX2 :  (mid : Nat) < e := by omega
              have hY2 : ¬ (m : Nat) < e := by omega
              clear rx1 rx2
              have HS1 := hid (HV.out.rot_not HO1.out HG1.out (by omega))
              have HS2 := hid (HV.out.one_not HS1.out (by omega))
              go_wp2_with (fail)
              go_end0
              exact HV.out.two_not HS2.out (by omega)
          · by_cases hQ : e < b
            · have hX2 :  (mid : Nat) < e := by omega
              have hY2 : ¬ (m : Nat) < e := by omega
              clear rx1 rx2
              have HS1 := hid (HV.out.rot_not HO1.out HG1.out (by omega))
              have HS2 := hid (HV.out.one_not HS1.out (by omega))
              go_wp2_with (first | (go_at_call 67; have hc := HV.out.two HF.out HS2.out (by omega) (by omega); (with_reducible refine hc.mono ?_); rintro r w3 hs3; have hr := hs3.1; subst hr; have HS3 := hid hs3; clear hs3 hc))
              go_end0
              exact HS3.out
            · have hX2 :  (mid : Nat) < e := by omega
              have hY2 : ¬ (m : Nat) < e := by omega
              clear rx1 rx2
              have HS1 := hid (HV.out.rot_not HO1.out HG1.out (by omega))
              have HS2 := hid (HV.out.one_not HS1.out (by omega))
              go_wp2_with (fail)
              go_end0
              exact HV.out.two_not HS2.out (by omega)
      · by_cases hY : i < mid
        · by_cases hA : a < i
          · by_cases hQ : e < b
            · have hX2 : ¬ (mid : Nat) < e := by omega
              have hY2 :  (m : Nat) < e := by omega
              clear rx1 rx2
              have HS1 := hid (HV.out.rot_not HO1.out HG1.out (by omega))
              go_wp2_with (first | (go_at_call 67; have hc := HV.out.one HF.out HS1.out (by omega) (by omega); (with_reducible refine hc.mono ?_); rintro r w2 ⟨rfl, l2, hs2⟩; have HS2 := hid hs2; clear hs2 hc))
              go_end0
              exact HV.out.two_not HS2.out (by omega)
            · have hX2 : ¬ (mid : Nat) < e := by omega
              have hY2 :  (m : Nat) < e := by omega
              clear rx1 rx2
              have HS1 := hid (HV.out.rot_not HO1.out HG1.out (by omega))
              go_wp2_with (first | (go_at_call 67; have hc := HV.out.one HF.out HS1.out (by omega) (by omega); (with_reducible refine hc.mono ?_); rintro r w2 ⟨rfl, l2, hs2⟩; have HS2 := hid hs2; clear hs2 hc))
              go_end0
              exact HV.out.two_not HS2.out (by omega)
          · by_cases hQ : e < b
            · have hX2 : ¬ (mid : Nat) < e := by omega
              have hY2 :  (m : Nat) < e := by omega
              clear rx1 rx2
              have HS1 := hid (HV.out.rot_not HO1.out HG1.out (by omega))
              have HS2 := hid (HV.out.one_not HS1.out (by omega))
              go_wp2_with (fail)
              go_end0
              exact HV.out.two_not HS2.out (by omega)
            · have hX2 : ¬ (mid : Nat) < e := by omega
              have hY2 :  (m : Nat) < e := by omega
              clear rx1 rx2
              have HS1 := hid (HV.out.rot_not HO1.out HG1.out (by omega))
              have HS2 := hid (HV.out.one_not HS1.out (by omega))
              go_wp2_with (fail)
              go_end0
              exact HV.out.two_not HS2.out (by omega)
        · by_cases hA : a < i
          · by_cases hQ : e < b
            · have hX2 : ¬ (mid : Nat) < e := by omega
              have hY2 : ¬ (m : Nat) < e := by omega
              clear rx1 rx2
              have HS1 := hid (HV.out.rot_not HO1.out HG1.out (by omega))
              have HS2 := hid (HV.out.one_not HS1.out (by omega))
              go_wp2_with (fail)
              go_end0
              exact HV.out.two_not HS2.out (by omega)
            · have hX2 : ¬ (mid : Nat) < e := by omega
              have hY2 : ¬ (m : Nat) < e := by omega
              clear rx1 rx2
              have HS1 := hid (HV.out.rot_not HO1.out HG1.out (by omega))
              have HS2 := hid (HV.out.one_not HS1.out (by omega))
              go_wp2_with (fail)
              go_end0
              exact HV.out.two_not HS2.out (by omega)
          · by_cases hQ : e < b
            · have hX2 : ¬ (mid : Nat) < e := by omega
              have hY2 : ¬ (m : Nat) < e := by omega
              clear rx1 rx2
              have HS1 := hid (HV.out.rot_not HO1.out HG1.out (by omega))
              have HS2 := hid (HV.out.one_not HS1.out (by omega))
              go_wp2_with (fail)
              go_end0
              exact HV.out.two_not HS2.out (by omega)
            · have hX2 : ¬ (mid : Nat) < e := by omega
              have hY2 : ¬ (m : Nat) < e := by omega
              clear rx1 rx2
              have HS1 := hid (HV.out.rot_not HO1.out HG1.out (by omega))
              have HS2 := hid (HV.out.one_not HS1.out (by omega))
              go_wp2_with (fail)
              go_end0
              exact HV.out.two_not HS2.out (by omega)
end PlayC
end Go.Proofs.Ytgplaoojimpbaaa
