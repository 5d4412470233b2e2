/- Contracts: stableCmpFunc and SortStableFunc of jobs. -/
import Derived.Test.YtgplaoojimpbaaaSrtG
set_option linter.unusedVariables false
namespace Go.Proofs.Ytgplaoojimpbaaa
open Go.RowKit hiding tok
open Go.Shelf Go.Sort
open SpanM SpanC PlayM
namespace PlayC
open RowG
/-- each block of S is sorted, from lo to hi -/
def Blk (l : List Jb) (S lo hi : Nat) : Prop := ∀ i j, lo ≤ i → i ≤ j → j < hi → i / S = j / S → sc l i ≤ sc l j
theorem Blk.zero (l : List Jb) (S : Nat) : Blk l S 0 0 := fun i j _ _ h _ => by omega
theorem Blk.next {l l' : List Jb} {S q e : Nat} (hS : 0 < S) (h : Blk l S 0 (q * S)) (r : Rg (q * S) e l l') (s : Srt l' (q * S) e) : Blk l' S 0 e := by
  intro i j h0 h1 h2 h3
  by_cases c1 : j < q * S
  · have := h i j h0 h1 c1 h3
    unfold sc at *
    rw [r.out i (by omega), r.out j (by omega)]; exact this
  · by_cases c2 : q * S ≤ i
    · exact s i j c2 h1 h2
    · have a1 : i / S < q := (Nat.div_lt_iff_lt_mul hS).2 (by omega)
      have a2 : q ≤ j / S := (Nat.le_div_iff_mul_le hS).2 (by omega)
      omega
theorem Blk.out {l l' : List Jb} {S a b lo hi : Nat} (h : Blk l S lo hi) (r : Rg a b l l') (hb : b ≤ lo) : Blk l' S lo hi := by
  intro i j h0 h1 h2 h3
  have := h i j h0 h1 h2 h3
  unfold sc at *
  rw [r.out i (by omega), r.out j (by omega)]; exact this
theorem Blk.more {l : List Jb} {S lo lo' hi : Nat} (h : Blk l S lo hi) (hl : lo ≤ lo') : Blk l S lo' hi := fun i j h0 h1 h2 h3 => h i j (by omega) h1 h2 h3
theorem Blk.srt {l : List Jb} {S lo hi q e : Nat} (h : Blk l S lo hi) (h1 : lo ≤ q * S) (h2 : e ≤ q * S + S) (h3 : e ≤ hi) : Srt l (q * S) e := by
  intro i j a1 a2 a3
  refine h i j (by omega) a2 (by omega) ?_
  have e1 : i / S = q := Nat.div_eq_of_lt_le (by omega) (by rw [Nat.add_mul]; omega)
  have e2 : j / S = q := Nat.div_eq_of_lt_le (by omega) (by rw [Nat.add_mul]; omega)
  omega
theorem Blk.all {l : List Jb} {S n : Nat} (h : Blk l S 0 n) (hn : n ≤ S) : Srt l 0 n := by
  intro i j a1 a2 a3
  refine h i j a1 a2 a3 ?_
  rw [Nat.div_eq_of_lt (by omega), Nat.div_eq_of_lt (by omega)]
set_option maxRecDepth 20000 in
set_option maxHeartbeats 3200000 in
theorem stable_any (g n cap B : Nat) (l : List Jb) (w : World) (h : OwnJ w B (vS g n cap) l) (hn : n = l.length) (hl : l.length ≤ 4000) :
    Calls Try.prog 53 #[vS g n cap, .int .i64 n, vC] w fun e w' => e = .returned (.tuple #[]) ∧ ∃ l', OwnJ w' B (vS g n cap) l' ∧ w.grownBy w' (some g) ∧ l'.Perm l ∧ Srt l' 0 n := by
  have HO := hid h
  have HN := hid hn
  have hnl : n ≤ 4000 := by omega
  clear h hn hl
  go_enter Try.func53, Try.ntmps53
  go_wp2_with fail
  go_loopw [7, 8] (fun va vb wr => ∃ (q a : Nat) (li : List Jb), a ≤ n ∧ va = .int .i64 a ∧ vb = .int .i64 (a + 20 : Nat) ∧ Hid (a = q * 20) ∧ OwnJ wr B (vS g n cap) li ∧ w.grownBy wr (some g) ∧ li.Perm l ∧ Blk li 20 0 a) (fun va _ _ => n - (intOf va).toNat)
  case atStart => exact ⟨0, 0, l, by omega, rfl, rfl, rfl, HO.out, grown_refl _ _, .refl _, Blk.zero _ _⟩
  case round =>
    obtain ⟨q, a, li, ha, rfl, rfl, HA, ho, hg, hp, hb⟩ := hrel
    have HO1 := hid ho
    have HG1 := hid hg
    have HP1 := hid hp
    have HB1 := hid hb
    have HLI := hid (show n = li.length by rw [hp.length_eq]; exact HN.out)
    clear ho hg hp hb
    obtain ⟨b, hbe⟩ : ∃ b, b = a + 20 := ⟨_, rfl⟩
    rw [← hbe]
    have HBE := hid hbe
    have hb1 : a < b := by omega
    have hb2 : b ≤ 4020 := by omega
    clear hbe
    by_cases hbn : b ≤ n
    · have hI := hid (insertion_any g n cap B a b li wr HO1.out HLI.out (by omega) (by have := HLI.out; omega) (by have := HLI.out; omega))
      go_wp2_with (first | (go_at_call 66; refine hI.out.mono ?_; rintro e w1 ⟨rfl, l1, ho1, hg1, hr1, hs1⟩; have HO2 := hid ho1; have HG2 := hid hg1; have HR2 := hid hr1; have HS2 := hid hs1; clear ho1 hg1 hr1 hs1))
      go_roundw
      case rel =>
        have e1 := HBE.out
        have e2 := HA.out
        refine ⟨q + 1, b, l1, by omega, rfl, by go_num, (show b = (q + 1) * 20 by omega), HO2.out, HG1.out.trans HG2.out, HR2.out.perm.trans HP1.out, ?_⟩
        refine Blk.next (q := q) (by omega) (by rw [← e2]; exact HB1.out) (by rw [← e2]; exact HR2.out) (by rw [← e2]; exact HS2.out)
      case measure => have := HBE.out; simp [intOf]; omega
    · have hI := hid (insertion_any g n cap B a n li wr HO1.out HLI.out (by omega) (by have := HLI.out; omega) (by have := HLI.out; omega))
      go_wp2_with (first | (go_at_call 66; refine hI.out.mono ?_; rintro e w1 ⟨rfl, l1, ho1, hg1, hr1, hs1⟩; have HO2 := hid ho1; have HG2 := hid (HG1.out.trans hg1); have HP2 := hid (hr1.perm.trans HP1.out); have HB2 := hid (Blk.next (S := 20) (q := q) (by omega) (by rw [← HA.out]; exact HB1.out) (by rw [← HA.out]; exact hr1) (by rw [← HA.out]; exact hs1)); clear ho1 hg1 hr1 hs1))
      clear hI
      go_loopw [6, 7, 8] (fun vs va vb wr => ∃ (s : Nat) (li : List Jb), 20 ≤ s ∧ s ≤ 8000 ∧ vs = .int .i64 s ∧ OwnJ wr B (vS g n cap) li ∧ w.grownBy wr (some g) ∧ li.Perm l ∧ Blk li s 0 n) (fun vs _ _ _ => 8001 - (intOf vs).toNat)
      case atStart => exact ⟨20, l1, by omega, by omega, rfl, HO2.out, HG2.out, HP2.out, HB2.out⟩
      case round =>
        obtain ⟨s, li2, hs1, hs2, rfl, ho, hg, hp, hb⟩ := hrel
        have HO3 := hid ho
        have HG3 := hid hg
        have HP3 := hid hp
        have HB3 := hid hb
        clear ho hg hp hb
        by_cases hsn : s < n
        · go_wp2_with fail
          obtain ⟨w0, hw0⟩ : ∃ x, x = wr := ⟨_, rfl⟩
          subst hw0
          go_loopw [7, 8] (fun va vb wr => ∃ (q a : Nat) (li : List Jb), a ≤ n ∧ va = .int .i64 a ∧ vb = .int .i64 (a + 2 * s : Nat) ∧ Hid (a = q * (2 * s)) ∧ OwnJ wr B (vS g n cap) li ∧ w.grownBy wr (some g) ∧ li.Perm l ∧ Blk li (2 * s) 0 a ∧ Blk li s a n) (fun va _ _ => n - (intOf va).toNat)
          case atStart => exact ⟨0, 0, li2, by omega, rfl, by go_num, (show 0 = 0 * (2 * s) by omega), HO3.out, HG3.out, HP3.out, Blk.zero _ _, HB3.out⟩
          case round =>
            obtain ⟨q, a, lj, ha, rfl, rfl, HA2, ho, hg, hp, hb, hb'⟩ := hrel
            have HO4 := hid ho
            have HG4 := hid hg
            have HP4 := hid hp
            have HB4 := hid hb
            have HB5 := hid hb'
            have HLJ := hid (show n = lj.length by rw [hp.length_eq]; exact HN.out)
            clear ho hg hp hb hb'
            obtain ⟨b, hbe⟩ : ∃ b, b = a + 2 * s := ⟨_, rfl⟩
            rw [← hbe]
            have HBE := hid hbe
            obtain ⟨c, hce⟩ : ∃ c, c = a + s := ⟨_, rfl⟩
            have ec : (a : Int) + (s : Int) = (c : Int) := by omega
            have HCE := hid hce
            have hac : a < c := by omega
            have hcb : c < b := by omega
            have hb2 : b ≤ 12000 := by omega
            have HQ := hid (show a = (2 * q) * s by rw [HA2.out, Nat.mul_comm 2 q, Nat.mul_assoc])
            have HQ2 := hid (show c = (2 * q + 1) * s by rw [hce, HQ.out, Nat.add_mul]; omega)
            clear hbe hce
            by_cases hbn : b ≤ n
            · have hs1' : Srt lj a c := by
                have e := HQ.out
                have := HB5.out.srt (q := 2 * q) (e := c) (by omega) (by have := HCE.out; omega) (by omega)
                rw [← e] at this; exact this
              have hs2' : Srt lj c b := by
                have e := HQ2.out
                have := HB5.out.srt (q := 2 * q + 1) (e := b) (by omega) (by have := HCE.out; have := HBE.out; omega) (by omega)
                rw [← e] at this; exact this
              have hM := hid (merge_any g n cap B (b - a + 1) a c b lj wr (by omega) HO4.out HLJ.out hac hcb (by have := HLJ.out; omega) (by have := HLJ.out; omega) hs1' hs2')
              clear hs1' hs2'
              go_wp2_with (first | (go_at_call 67; refine hM.out.mono ?_; rintro e w1 ⟨rfl, l1, ho1, hg1, hr1, hs1⟩; have HO5 := hid ho1; have HG5 := hid hg1; have HR5 := hid hr1; have HS5 := hid hs1; clear ho1 hg1 hr1 hs1))
              go_roundw
              case rel =>
                have e1 := HBE.out
                have e2 := HA2.out
                refine ⟨q + 1, b, _, by omega, rfl, by go_num, (show b = (q + 1) * (2 * s) by rw [Nat.add_mul]; omega), HO5.out, HG4.out.trans HG5.out, HR5.out.perm.trans HP4.out, ?_, ?_⟩
                · exact Blk.next (q := q) (by omega) (by rw [← e2]; exact HB4.out) (by rw [← e2]; exact HR5.out) (by rw [← e2]; exact HS5.out)
                · exact (HB5.out.more (by omega)).out HR5.out (Nat.le_refl _)
              case measure => have := HBE.out; simp [intOf]; omega
            · by_cases hcn : c < n
              · have hs1' : Srt lj a c := by
                  have e := HQ.out
                  have := HB5.out.srt (q := 2 * q) (e := c) (by omega) (by have := HCE.out; omega) (by omega)
                  rw [← e] at this; exact this
                have hs2' : Srt lj c n := by
                  have e := HQ2.out
                  have := HB5.out.srt (q := 2 * q + 1) (e := n) (by omega) (by have := HCE.out; have := HBE.out; omega) (by omega)
                  rw [← e] at this; exact this
                have hM := hid (merge_any g n cap B (n - a + 1) a c n lj wr (by omega) HO4.out HLJ.out hac hcn (by have := HLJ.out; omega) (by have := HLJ.out; omega) hs1' hs2')
                clear hs1' hs2'
                go_wp2_with (first | (go_at_call 67; refine hM.out.mono ?_; rintro e w1 ⟨rfl, l1, ho1, hg1, hr1, hs1⟩; have HO5 := hid ho1; have HG5 := hid hg1; have HR5 := hid hr1; have HS5 := hid hs1; clear ho1 hg1 hr1 hs1))
                go_roundw
                case rel =>
                  have e2 := HA2.out
                  refine ⟨2 * s, _, by omega, by omega, by first | go_num | (congr 1; omega), HO5.out, HG4.out.trans HG5.out, HR5.out.perm.trans HP4.out, ?_⟩
                  exact Blk.next (q := q) (by omega) (by rw [← e2]; exact HB4.out) (by rw [← e2]; exact HR5.out) (by rw [← e2]; exact HS5.out)
                case measure => simp [intOf]; omega
              · have hs1' : Srt lj a n := by
                  have e := HQ.out
                  have := HB5.out.srt (q := 2 * q) (e := n) (by omega) (by have := HCE.out; omega) (by omega)
                  rw [← e] at this; exact this
                have HS5 := hid hs1'
                clear hs1'
                go_wp2_with fail
                go_roundw
                case rel =>
                  have e2 := HA2.out
                  refine ⟨2 * s, lj, by omega, by omega, by first | go_num | (congr 1; omega), HO4.out, HG4.out, HP4.out, ?_⟩
                  exact Blk.next (q := q) (by omega) (by rw [← e2]; exact HB4.out) (Rg.refl _ _ _) (by rw [← e2]; exact HS5.out)
                case measure => simp [intOf]; omega
        · go_wp2_with fail
          go_end0
          exact ⟨rfl, li2, HO3.out, HG3.out, HP3.out, HB3.out.all (by omega)⟩
theorem insertion_nil (w : World) : Calls Try.prog 66 #[.slice none 0 0, .int .i64 0, .int .i64 0, vC] w fun e w' => e = .returned (.tuple #[]) ∧ w' = w := by
  go_enter Try.func66, Try.ntmps66
  go_wp2
  go_rounds 1
  go_end0
  exact ⟨rfl, rfl⟩
theorem stable_nil (w : World) : Calls Try.prog 53 #[.slice none 0 0, .int .i64 0, vC] w fun e w' => e = .returned (.tuple #[]) ∧ w' = w := by
  go_enter Try.func53, Try.ntmps53
  go_wp2_with fail
  refine wp_loop_rounds 1 ?_
  rw [rounds_succ]
  go_wp2_with (first | (go_at_call 66; refine (insertion_nil _).mono ?_; rintro e w' ⟨rfl, hw⟩; replace hw := hw.symm; subst hw))
  refine wp_loop_rounds 1 ?_
  rw [rounds_succ]
  go_wp2_with fail
  go_end0
  exact ⟨rfl, rfl⟩
/-- sorted by when they come -/
def Sorted (l : List Jb) : Prop := ∀ i j, i ≤ j → j < l.length → sc l i ≤ sc l j
theorem sort_any (v : Value) (B : Nat) (l : List Jb) (w : World) (h : OwnJ w B v l) (hl : l.length ≤ 4000) :
    Calls Try.prog 34 #[v, vC] w fun e w' => e = .returned (.tuple #[]) ∧ ∃ l', OwnJ w' B v l' ∧ w.grownBy w' v.ownBlock ∧ l'.Perm l ∧ Sorted l' := by
  rcases h.form with ⟨rfl, rfl⟩ | ⟨g, cap, rfl, hb, hg, h1, h2⟩
  · have HS := hid (stable_nil w)
    have HO := hid h
    clear h hl
    go_enter Try.func34, Try.ntmps34
    go_wp2_with (first | (go_at_call 53; refine HS.out.mono ?_; rintro e w' ⟨rfl, hw⟩; replace hw := hw.symm; subst hw))
    go_end0
    exact ⟨rfl, [], HO.out, grown_refl _ _, .refl _, fun i j _ h => by simp at h⟩
  · have HS := hid (stable_any g l.length cap B l w h rfl hl)
    have hl2 := hl
    generalize l.length = n at *
    clear h hl h1 h2 hb hg
    go_enter Try.func34, Try.ntmps34
    go_wp2_with (first | (go_at_call 53; refine HS.out.mono ?_; rintro e w' ⟨rfl, l', ho, hg, hp, hs⟩; have HO := hid ho; have HG := hid hg; have HP := hid hp; have HT := hid hs; clear ho hg hp hs))
    go_end0
    refine ⟨rfl, l', HO.out, HG.out, HP.out, fun i j h1 h2 => HT.out i j (Nat.zero_le _) h1 ?_⟩
    obtain ⟨a, c, e⟩ := HO.out.slice
    simp at e
    omega
end PlayC
end Go.Proofs.Ytgplaoojimpbaaa
