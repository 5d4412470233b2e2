/- Contracts: insertionSortCmpFunc of jobs. -/
import Derived.Test.YtgplaoojimpbaaaSrtA
set_option linter.unusedVariables false
namespace Go.Proofs.Ytgplaoojimpbaaa
open Go.RowKit hiding tok
open Go.Shelf Go.Sort
open SpanM SpanC PlayM
namespace PlayC
open RowG
abbrev vC : Value := .func (.func 35) #[] #[]
theorem grown_grow (w : World) (n : Nat) (os : Array Obj) (r : Option Nat) : w.grownBy (grow (w.drewN n) os) r :=
  ⟨rfl, rfl, rfl, by rw [size_grow]; exact Nat.le_add_right _ _, fun k hk _ => by
    rw [heap_grow_old _ _ (by exact hk)]; rfl⟩
theorem own_grow {w : World} {B g n cap : Nat} {l : List Jb} (h : OwnJ w B (vS g n cap) l) (m : Nat) (os : Array Obj) : OwnJ (grow (w.drewN m) os) B (vS g n cap) l :=
  h.kept (grown_grow w m os none) (.inr (by simp [Value.ownBlock]))
theorem cmp_ready (K : Nat) (hK : K = 7) {w : World} {B g n cap : Nat} {l : List Jb} (h : OwnJ w B (vS g n cap) l) (p q : Nat) (hp : p < l.length) (hq : q < l.length) :
    ∃ (cx cy : List Value) (c : Int), cx.length = K ∧ cy.length = K ∧ Hid (c < 0 ↔ sc l p < sc l q) ∧
      (∀ m os, Sem.run Try.prog (loadCellsFrom ⟨g, p * K, none⟩ 0 K #[]) (grow (w.drewN m) os) = .ok cx.toArray (grow (w.drewN m) os)) ∧
      (∀ m os, Sem.run Try.prog (loadCellsFrom ⟨g, q * K, none⟩ 0 K #[]) (grow (w.drewN m) os) = .ok cy.toArray (grow (w.drewN m) os)) ∧
      (∀ m os, Calls Try.prog 35 #[.agg cx.toArray, .agg cy.toArray] (grow (w.drewN m) os) fun e w' => e = .returned (.int .i64 c) ∧ ∃ q' os', w' = grow ((grow (w.drewN m) os).drewN q') os') := by
  subst hK
  refine ⟨EJ.enc l[p], EJ.enc l[q], cmpI l[p].c l[q].c, rfl, rfl, ?_, fun m os => (own_grow h m os).load p hp, fun m os => (own_grow h m os).load q hq, fun m os => pcmp_any l[p] l[q] _⟩
  show _ ↔ _
  unfold sc gt
  rw [getD_at l p hp, getD_at l q hq]
  unfold cmpI
  (repeat' split) <;> omega
set_option maxRecDepth 20000 in
set_option maxHeartbeats 3200000 in
theorem insertion_any (g n cap B a b : Nat) (l : List Jb) (w : World) (h : OwnJ w B (vS g n cap) l) (hn : n = l.length) (hab : a ≤ b) (hb : b ≤ l.length) (hl : l.length ≤ 4000) :
    Calls Try.prog 66 #[vS g n cap, .int .i64 a, .int .i64 b, vC] w fun e w' => e = .returned (.tuple #[]) ∧ ∃ l', OwnJ w' B (vS g n cap) l' ∧ w.grownBy w' (some g) ∧ Rg a b l l' ∧ Srt l' a b := by
  obtain ⟨K, hK⟩ : ∃ K : Nat, K = 7 := ⟨7, rfl⟩
  have z72 := sizeK K hK
  have a72 := Try.isAgg72
  have mixed := mixd
  have HK := hid hK
  have HO := hid h
  have HN := hid hn
  have hnl : n ≤ 4000 := by omega
  have hbn : b ≤ n := by omega
  clear h hK hn hb hl
  go_enter Try.func66, Try.ntmps66
  go_wp2_with fail
  go_loopw [8] (fun vi wr => ∃ (i : Nat) (li : List Jb), a < i ∧ i ≤ b + 1 ∧ (i ≤ b ∨ i = a + 1) ∧ vi = .int .i64 i ∧ OwnJ wr B (vS g n cap) li ∧ w.grownBy wr (some g) ∧ Rg a b l li ∧ Srt li a i) (fun vi _ => b + 1 - (intOf vi).toNat)
  case atStart => exact ⟨a + 1, l, by omega, by omega, .inr rfl, by go_num, HO.out, grown_refl _ _, Rg.refl _ _ _, fun x y h1 h2 h3 => by rw [show x = y by omega]; exact Int.le_refl _⟩
  case round =>
    obtain ⟨i, li, hai, hib, hib2, rfl, ho, hg, hr, hs⟩ := hrel
    have HO1 := hid ho
    have HG1 := hid hg
    have HR1 := hid hr
    have HS1 := hid hs
    have HLI := hid (show li.length = n by rw [hr.len, HN.out])
    clear ho hg hr hs
    by_cases hlt : i < b
    · go_wp2_with fail
      obtain ⟨w0, hw0⟩ : ∃ x, x = wr := ⟨_, rfl⟩
      subst hw0
      go_loopw [9] (fun vj wr => ∃ (j : Nat) (lj : List Jb), a ≤ j ∧ j ≤ i ∧ vj = .int .i64 j ∧ OwnJ wr B (vS g n cap) lj ∧ w.grownBy wr (some g) ∧ Rg a b l lj ∧ (∀ x, gt lj x = rotF (gt li) j i (i + 1) x) ∧ (j < i → sc li i ≤ sc li j)) (fun vj _ => (intOf vj).toNat)
      case atStart => exact ⟨i, li, by omega, by omega, rfl, HO1.out, HG1.out, HR1.out, fun x => (rot_id1 _ _ _ _).symm, by omega⟩
      case round =>
        obtain ⟨j, lj, haj, hji, rfl, ho, hg, hr, hx, hc⟩ := hrel
        have HO2 := hid ho
        have HG2 := hid hg
        have HR2 := hid hr
        have HX2 := hid hx
        have HC2 := hid hc
        have hlj : lj.length = n := by rw [hr.len, HN.out]
        clear ho hg hr hx hc
        by_cases hja : a < j
        · obtain ⟨p, rfl⟩ : ∃ p, j = p + 1 := ⟨j - 1, by omega⟩
          obtain ⟨cx, cy, c, hcx, hcy, HCI, l1, l2, hcm⟩ := cmp_ready K HK.out HO2.out (p + 1) p (by omega) (by omega)
          have v1 : sc lj (p + 1) = sc li i := by
            unfold sc; rw [HX2.out]; unfold rotF; rw [if_neg (by omega), if_pos (by omega), show p + 1 + (i - (p + 1)) = i by omega]
          have v2 : sc lj p = sc li p := by
            unfold sc; rw [HX2.out]; unfold rotF; rw [if_pos (by omega)]
          rw [v1, v2] at HCI
          clear v1 v2
          have i1 : (0 : Int) ≤ (p : Int) + 1 := by omega
          have i2 : (p : Int) + 1 < (n : Int) := by omega
          have i3 : (p : Int) < (n : Int) := by omega
          have e0 : ((p : Int) + 1).toNat = p + 1 := by omega
          have hwp : IntKind.i64.wrap (p : Int) = (p : Int) := by rw [IntKind.wrap_i64]; omega
          have hja2 : (a : Int) < (p : Int) + 1 := by omega
          have HLJ := hid hlj
          clear hlj
          by_cases hlv : c < 0
          · go_wp2_with fail
            go_quiet_grown (first | (go_at_call 35; refine Calls.grown_of (hcm _ _)))
            go_wp2_with fail
            have HO3 := hid (own_grow HO2.out nq osq)
            have HG3 := hid (grown_grow wr nq osq (some g))
            generalize grow (wr.drewN nq) osq = w3 at *
            clear l1 l2 hcm
            obtain ⟨dx, dy, hdx, hdy, l1, l2, s1, s2, HS⟩ := sw_ready K HK.out HO3.out (p + 1) p (by have := HLJ.out; omega) (by have := HLJ.out; omega)
            go_big_region_o
            all_goals go_wp2
            go_roundw
            case rel =>
              have h5 := HLJ.out
              refine ⟨p, sw lj (p + 1) p, by omega, by omega, by go_num, HS.out.1, (HG2.out.trans HG3.out).trans HS.out.2, HR2.out.trans (Rg.sw (by omega) (by omega) (by omega) (by omega) (by omega) (by omega)), fun x => ?_, fun _ => by have := HCI.out.1 hlv; omega⟩
              rw [gt_sw lj (p + 1) p x (by omega) (by omega), rot_down _ _ _ _ (by omega), HX2.out, HX2.out, HX2.out]
            case measure => simp [intOf]
          · have HLV := hid (fun h : c < 0 => hlv h)
            go_wp2_with fail
            go_quiet_grown (first | (go_at_call 35; refine Calls.grown_of (hcm _ _)))
            go_wp2_with fail
            have HO3 := hid (own_grow HO2.out nq osq)
            have HG3 := hid (grown_grow wr nq osq (some g))
            generalize grow (wr.drewN nq) osq = w3 at *
            clear l1 l2 hcm
            go_roundw
            case rel =>
              have h5 := HLI.out
              refine ⟨i + 1, lj, by omega, by omega, .inl (by omega), by go_num, HO3.out, HG2.out.trans HG3.out, HR2.out, ins_high (by omega) hji HS1.out HX2.out (fun _ => ?_) HC2.out⟩
              have := HCI.out
              have h6 : ¬ sc li i < sc li p := fun h => HLV.out (this.2 h)
              rw [show p + 1 - 1 = p by omega]; omega
            case measure => simp [intOf]; omega
        · have hjaz : decide ((j : Int) > (a : Int)) = false := decide_eq_false (by omega)
          have hjaz' : ¬ (a : Int) < (j : Int) := by omega
          have HO3 : Hid (OwnJ wr.drew B (vS g n cap) lj) := World.ownsRow.drew HO2.out
          have HG3 : Hid (wr.grownBy wr.drew (some g)) := grown_drew (grown_refl _ _)
          have HLJ := hid hlj
          have HJ := hid (show j = a by omega)
          clear hlj
          go_wp2_with fail
          go_big_region_o
          all_goals go_wp2
          go_roundw
          case rel =>
            exact ⟨i + 1, lj, by omega, by omega, .inl (by omega), by go_num, HO3.out, HG2.out.trans HG3.out, HR2.out, ins_high (by omega) hji HS1.out HX2.out (fun h => by have := HJ.out; omega) HC2.out⟩
          case measure => simp [intOf]; omega
    · go_wp2_with fail
      go_end0
      exact ⟨rfl, li, HO1.out, HG1.out, HR1.out, fun x y h1 h2 h3 => HS1.out x y h1 h2 (by omega)⟩
end PlayC
end Go.Proofs.Ytgplaoojimpbaaa
