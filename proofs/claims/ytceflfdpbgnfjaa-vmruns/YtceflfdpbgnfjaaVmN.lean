/- Package vm: New; SameVm of the document's own answer; rows of ints of any length: Equal, Clone. -/
import Derived.Test.YtceflfdpbgnfjaaVmL
import Derived.Test.YtceflfdpbgnfjaaEqEm
import Derived.Deep.OwnRows
set_option linter.unusedVariables false
namespace Go.Proofs.Ytceflfdpbgnfjaa
open Go.RowKit
open Go.Shelf Go.Sort
open SpanM hiding good
open SpanC IntsC
open RowsO hiding Em
namespace VmC
open VmP VmM
open NumC (Row)
set_option maxRecDepth 20000 in
set_option maxHeartbeats 1600000 in
theorem iequalL_rd (a b : Option Addr) (n ca cb : Nat) (la lb : List Int) (w : World) (ha : Row w a la) (hb : Row w b lb) (hn : n = la.length) (hm : n = lb.length) (hl : n ≤ maxLen) :
    Calls Try.prog 24 #[.slice a n ca, .slice b n cb] w fun e w' => e = .returned (.bool (decide (la = lb))) ∧ Below w.heap.size w w' := by
  have hne : ((n : Int) != (n : Int)) = false := by simp
  unfold maxLen at hl
  have HA := hid ha
  have HB := hid hb
  have HN := hid hn
  have HM := hid hm
  clear ha hb hn hm
  go_enter Try.func24, Try.ntmps24
  go_wp2_with fail
  go_loopw [13] (fun vk wr => ∃ k : Nat, k ≤ n ∧ vk = .int .i64 k ∧ Hid (la.take k = lb.take k) ∧ Below w.heap.size w wr) (fun vk _ => n - (intOf vk).toNat)
  case atStart => exact ⟨0, by omega, rfl, (by rfl : la.take 0 = lb.take 0), Below.refl _ _⟩
  case round =>
    obtain ⟨k, hk, rfl, HK, hbel⟩ := hrel
    have HBL := hid hbel
    by_cases hlt : k < n
    · obtain ⟨p, off, hpa, _, a0⟩ := Row.at (Row.below HA.out hbel (Nat.le_refl _)) k (by have := HN.out; omega)
      obtain ⟨q, off2, hqb, _, b0⟩ := Row.at (Row.below HB.out hbel (Nat.le_refl _)) k (by have := HM.out; omega)
      subst hpa
      subst hqb
      have hta := in_snoc la k (by have := HN.out; omega)
      have htb := in_snoc lb k (by have := HM.out; omega)
      generalize la.getD k 0 = x at a0 hta
      generalize lb.getD k 0 = y at b0 htb
      have HTA := hid hta
      have HTB := hid htb
      have i1 : (k : Int) < (n : Int) := by omega
      clear hta htb hbel
      by_cases he : x = y
      · have hd : (x != y) = false := by simp [he]
        have HE := hid he
        clear he
        go_wp2_with fail
        go_quiet (fail)
        go_wp2_with fail
        go_roundw
        case rel => exact ⟨k + 1, by omega, by go_num, (by rw [HTA.out, HTB.out, HK.out, HE.out] : la.take (k + 1) = lb.take (k + 1)), below_drewN HBL.out _⟩
        case measure => simp [intOf]; omega
      · have hd : (x != y) = true := by simp [he]
        have HE := hid (fun h : x = y => he h)
        clear he
        go_wp2_with fail
        go_quiet (fail)
        go_wp2_with fail
        go_ret
        refine ⟨?_, below_drewN HBL.out _⟩
        have : la ≠ lb := fun e => by
          have h1 := HTA.out
          rw [e, HTB.out] at h1
          simp at h1
          exact HE.out h1.symm
        rw [decide_eq_false this]; rfl
    · have HE : Hid (la = lb) := by
        have h := HK.out
        rw [List.take_of_length_le (by have := HN.out; omega), List.take_of_length_le (by have := HM.out; omega)] at h
        exact h
      go_wp2_with fail
      go_ret
      exact ⟨by rw [decide_eq_true HE.out]; rfl, HBL.out⟩
theorem iequalL_any (a b : Option Addr) (ca cb : Nat) (la lb : List Int) (w : World) (ha : Row w a la) (hb : Row w b lb) (hl : la.length ≤ maxLen) :
    Calls Try.prog 24 #[.slice a la.length ca, .slice b lb.length cb] w fun e w' => e = .returned (.bool (decide (la = lb))) ∧ Below w.heap.size w w' := by
  by_cases h : la.length = lb.length
  · rw [← h]
    exact iequalL_rd a b _ ca cb la lb w ha hb rfl h hl
  · rw [decide_eq_false (fun e => h (by rw [e]))]
    exact iequal_len a b _ _ ca cb w h
set_option maxRecDepth 20000 in
theorem cloneIL_some (p : Addr) (cap : Nat) (l : List Int) (w : World) (h : Row w (some p) l) (hm : l.length ≤ maxLen) (hl : l.length * 8 ≤ 140737488355328) :
    Calls Try.prog 20 #[.slice (some p) l.length cap] w fun e w' => (∃ v, e = .returned v ∧ OwnI w' w.heap.size v l) ∧ Below w.heap.size w w' := by
  obtain ⟨i0, hi, hz0, hz1, hz2⟩ := info_parts infoInt
  have Hi := hid hi
  have Hz0 := hid hz0
  have Hz1 := hid hz1
  have Hz2 := hid hz2
  clear hi hz0 hz1 hz2
  have q := eqNilI
  have HA := hid h
  have HM := hid hm
  have HL := hid hl
  clear h hm hl
  go_enter Try.func20, Try.ntmps20
  go_wp2_with (at_builtin; refine wpList_append_own _ rfl _ _ 23 rfl w.heap.size 3 i0 (.int .i64 0) 1 8 Try.underlying23 Hi.out Hz0.out Hz1.out Hz2.out rfl (by decide) _ _ _ rfl (World.ownsRow_made w #[] 0 (Nat.le_refl _) (Nat.zero_le _) rfl) p l.length cap (flI l) rfl ?qc1 ?qc2 ?qc3 ?qc4 ?qc5 ?qc6 ?_)
  case qc1 => rw [flI_len, Nat.mul_one]
  case qc2 =>
    rcases HA.out with e | ⟨b, off, e, _⟩
    · intro j u hj; rw [e] at hj; simp [flI] at hj
    · cases e; exact row_news (Row.below HA.out (Below.alloc (Below.refl _ _) (Nat.le_refl _) _) (Nat.le_refl _))
  case qc3 => exact flI_one l
  case qc4 => have := HM.out; omega
  case qc5 => have := HL.out; omega
  case qc6 => simp
  intro v' w1 hown hgrow hnil
  have HO : Hid (OwnI w1 w.heap.size v' l) := by
    show w1.ownsRow _ _ _ _ _ _
    simpa [flI] using hown
  have HB := hid (Below.grown (Below.alloc (Below.refl _ w) (Nat.le_refl _) _) hgrow (by simp) (by intro k hk; simp [Value.ownBlock] at hk; omega))
  obtain ⟨a, n, c, rfl⟩ := OwnI.slice (show OwnI _ _ _ _ from HO.out)
  clear hown hgrow hnil
  go_wp2
  go_ret
  exact ⟨⟨_, rfl, HO.out⟩, HB.out⟩
theorem owni_nil (w : World) (B : Nat) : OwnI w B (.slice none 0 0) [] := World.ownsRow_nil w B _ _
theorem cloneIL_any (a : Option Addr) (cap : Nat) (l : List Int) (w : World) (h : Row w a l) (nz : a = none → cap = 0) (hm : l.length ≤ maxLen) (hl : l.length * 8 ≤ 140737488355328) :
    Calls Try.prog 20 #[.slice a l.length cap] w fun e w' => (∃ v, e = .returned v ∧ OwnI w' w.heap.size v l) ∧ Below w.heap.size w w' := by
  cases a with
  | none =>
    obtain rfl := nz rfl
    obtain rfl : l = [] := by
      rcases h with h | ⟨b, off, h, _⟩
      · exact h
      · simp at h
    have q := eqNilI
    clear h nz hl hm
    go_enter Try.func20, Try.ntmps20
    go_wp2
    go_ret
    exact ⟨⟨_, rfl, owni_nil _ _⟩, Below.refl _ _⟩
  | some p => exact cloneIL_some p cap l w h hm hl
def sameB (s t : St) : Bool := decide (s.pc = t.pc) && (decide (s.regs = t.regs) && ((s.halts == t.halts) && (s.fault == t.fault)))
theorem sameB_refl (s : St) : sameB s s = true := by simp [sameB]
set_option maxRecDepth 20000 in
set_option maxHeartbeats 1600000 in
theorem same_any (p q : Int) (a b : Option Addr) (ca cb : Nat) (la lb : List Int) (h f h' f' : Bool) (w : World) (ha : Row w a la) (hb : Row w b lb) (hl : la.length ≤ 100000) :
    Calls Try.prog 13 #[.agg (vmC p (.slice a la.length ca) h f), .agg (vmC q (.slice b lb.length cb) h' f')] w fun e w' => e = .returned (.bool (sameB ⟨p, la, h, f⟩ ⟨q, lb, h', f'⟩)) ∧ Below w.heap.size w w' := by
  have HX := hid (B2.start w (vmC p (.slice a la.length ca) h f) (vmC q (.slice b lb.length cb) h' f') 25 25)
  have HEQ := hid (fun V (hV : Below w.heap.size w V) => iequal_any a b ca cb la lb V (Row.below ha hV (Nat.le_refl _)) (Row.below hb hV (Nat.le_refl _)) hl)
  clear ha hb
  by_cases h1 : p = q
  · have g1 : (p == q) = true := by simp [h1]
    cases h2 : decide (la = lb)
    · have hs : sameB ⟨p, la, h, f⟩ ⟨q, lb, h', f'⟩ = false := by simp only [sameB, h2]; simp
      rw [hs]
      rw [h2] at HEQ
      clear hs h1 h2
      go_enter Try.func13, Try.ntmps13
      go_wp2_with (go_at_call 24; refine (HEQ.out _ HX.out.bel).mono ?_; rintro e w2 ⟨rfl, hb2⟩; have HX2 := hid (HX.out.step hb2); clear hb2)
      go_ret
      exact ⟨rfl, HX2.out.bel⟩
    · have hs : sameB ⟨p, la, h, f⟩ ⟨q, lb, h', f'⟩ = ((h == h') && (f == f')) := by simp only [sameB, h2, h1]; simp
      rw [hs]
      rw [h2] at HEQ
      clear hs h1 h2
      cases h <;> cases f <;> cases h' <;> cases f'
      all_goals
        go_enter Try.func13, Try.ntmps13
        go_wp2_with (go_at_call 24; refine (HEQ.out _ HX.out.bel).mono ?_; rintro e w2 ⟨rfl, hb2⟩; have HX2 := hid (HX.out.step hb2); have y2 := HX2.out.c0 2; have y3 := HX2.out.c0 3; have z2 := HX2.out.c1 2; have z3 := HX2.out.c1 3; simp at y2 y3 z2 z3; clear hb2)
        go_ret
        exact ⟨rfl, HX2.out.bel⟩
  · have g1 : (p == q) = false := by simp [h1]
    have hs : sameB ⟨p, la, h, f⟩ ⟨q, lb, h', f'⟩ = false := by simp [sameB, h1]
    rw [hs]
    clear hs h1 HEQ
    go_enter Try.func13, Try.ntmps13
    go_wp2_with fail
    go_ret
    exact ⟨rfl, HX.out.bel⟩
theorem run_make8 (W : World) : (Instr.makeSlice 23 (.int .i64 8) (.int .i64 8)).run Try.prog W = .ok (vS W.heap.size 8 8) (W.alloc (.cells (madeCells #[.int .i64 0] 8) 3)) :=
  run_make_row' (P := Try.prog) 23 3 (.int .i64 0) 8 Try.underlying23 infoInt rfl .i64 .i64 8 (by omega) (by omega) W
theorem made8 {W : World} {B q : Nat} (hq : W.heap[q]? = some (.cells (madeCells #[.int .i64 0] 8) 3)) (hB : B ≤ q) : OwnI W B (vS q 8 8) (List.replicate 8 0) := by
  refine OwnI.made ⟨by simp [size_madeCells], .inr ⟨q, 8, _, rfl, by omega, hq, Nat.le_refl _, by unfold maxLen; omega, by simp [size_madeCells], ?_⟩⟩
  rw [List.take_of_length_le (by simp [size_madeCells])]
set_option maxRecDepth 20000 in
set_option maxHeartbeats 1600000 in
theorem new_any (w : World) :
    Calls Try.prog 14 #[] w fun e w' => (∃ g, e = .returned (.agg (vmC 0 (vS g 8 8) false false)) ∧ OwnI w' w.heap.size (vS g 8 8) (List.replicate 8 0)) ∧ Below w.heap.size w w' := by
  have hmk := run_make8
  go_enter Try.func14, Try.ntmps14
  go_wp2_with fail
  have hb1 : ((w.alloc (.cells (vmC 0 (vS (w.heap.size + 1) 8 8) false false) 25)).alloc (.cells (madeCells #[.int .i64 0] 8) 3)).heap[w.heap.size + 1]? = some (.cells (madeCells #[.int .i64 0] 8) 3) := by
    have := box_new (w.alloc (.cells (vmC 0 (vS (w.heap.size + 1) 8 8) false false) 25)) (madeCells #[.int .i64 0] 8) 3
    rwa [World.size_alloc] at this
  have HO := hid (made8 hb1 (show w.heap.size ≤ w.heap.size + 1 by omega))
  have HRES := hid (load_vm (box_alloc (box_new w (vmC 0 (vS (w.heap.size + 1) 8 8) false false) 25) (.cells (madeCells #[.int .i64 0] 8) 3)))
  have HB := hid (((Below.refl w.heap.size w).alloc (Nat.le_refl _) (.cells (vmC 0 (vS (w.heap.size + 1) 8 8) false false) 25)).alloc (by rw [World.size_alloc]; omega) (.cells (madeCells #[.int .i64 0] 8) 3))
  clear hb1 hmk
  generalize ((w.alloc (.cells (vmC 0 (vS (w.heap.size + 1) 8 8) false false) 25)).alloc (.cells (madeCells #[.int .i64 0] 8) 3)) = w7 at *
  (try simp only [Exit.inBlock, Exit.then])
  refine bodyPost_ret (by simp [results, Try.results14]; rw [as_addr, Result.andThen_ok, HRES.out]) rfl ?_
  exact ⟨⟨_, rfl, HO.out⟩, HB.out⟩
end VmC
end Go.Proofs.Ytceflfdpbgnfjaa
