/- Contracts of the document's own answers about locks: slices.Index and Contains of acts, CeilingOf. -/
import Derived.Test.YtllfpbngfkimlaaLokA
import Derived.Laws.StructEq
set_option linter.unusedVariables false
namespace Go.Proofs.Ytllfpbngfkimlaa
open Go.RowKit
open Go.Shelf Go.Sort
open SpanM SpanC IntsC
open RowsO hiding Wk
namespace LockC
open LockM
open NumC (Row)
theorem eqA (x0 x1 y0 y1 : Int) (w : World) : (binOp .eql 74 (.agg #[.int .i64 x0, .int .i64 x1]) (.agg #[.int .i64 y0, .int .i64 y1])).run Try.prog w = .ok (.bool (decide (x0 = y0 ∧ x1 = y1))) w := by
  have u3 := Try.underlying3
  have a3 := Try.isAgg3
  have z3 := Try.sizeOf3
  have hS : Try.prog.underlying 74 = some (.struct (Try.prog.fieldsOf 74)) := by kernel_rfl
  have hp : Try.prog.stoodInHeld 74 = false := by kernel_rfl
  rw [run_eql_struct, show (10000 : Nat) = 9999 + 1 from rfl, run_equalIn_agg w 9999 74 _ _ hS hp]
  simp only [Program.fieldsOf, Try.underlying74]
  go_simp
  by_cases h1 : x0 = y0 <;> by_cases h2 : x1 = y1 <;> simp [h1, h2]
theorem guardA : Try.prog.eqGuardType Try.prog.depth 74 = false := by kernel_rfl
set_option maxRecDepth 20000 in
set_option maxHeartbeats 1600000 in
theorem aindex_any (a : Option Addr) (cap : Nat) (l : List LockM.Ac) (x0 x1 : Int) (w : World) (hr : Acs w a l) (hl : l.length ≤ 100000) :
    Calls Try.prog 61 #[.slice a l.length cap, .agg #[.int .i64 x0, .int .i64 x1]] w fun e w' => (∃ i : Int, e = .returned (.int .i64 i) ∧ decide (0 ≤ i) = decide ((x0, x1) ∈ l)) ∧ Below w.heap.size w w' := by
  have HR := hid hr
  have mixed := mixd
  clear hr
  go_enter Try.func61, Try.ntmps61
  go_wp2_with fail
  go_loopw [8] (fun v8 wr => ∃ (k : Nat), k ≤ l.length ∧ v8 = .int .i64 k ∧ Hid ((x0, x1) ∉ l.take k) ∧ B1 w wr #[.int .i64 x0, .int .i64 x1] 74) (fun v8 _ => l.length - (intOf v8).toNat)
  case atStart => exact ⟨0, by omega, rfl, (by simp : (x0, x1) ∉ l.take 0), B1.start _ _ _⟩
  case round =>
    obtain ⟨k, hk, rfl, hg, hb⟩ := hrel
    have HB := hid hb
    by_cases hlt : k < l.length
    · obtain ⟨b, off, rfl, _, d1, d2⟩ := (HR.out.below hb.bel (Nat.le_refl _)).at k hlt
      have c0 := hb.c0 0
      have c1 := hb.c0 1
      simp at c0 c1
      have hd := ac_snoc l k hlt
      have hmem := ac_mem hlt
      have i1 : (k : Int) < (l.length : Int) := by omega
      clear hb
      generalize l.getD k zAc = z at d1 d2 hd hmem
      obtain ⟨y0, y1⟩ := z
      simp only at d1 d2
      have HD := hid hd
      have HM := hid hmem
      have heq := fun W => eqA x0 x1 y0 y1 W
      have hgd := guardA
      clear hd hmem
      by_cases hz : x0 = y0 ∧ x1 = y1
      · rw [decide_eq_true hz] at heq
        have HX : Hid ((x0, x1) ∈ l) := by rw [hz.1, hz.2]; exact HM.out
        clear hz
        go_wp2_with fail
        go_quiet (fail)
        go_wp2_with fail
        go_ret
        exact ⟨⟨_, rfl, by rw [decide_eq_true HX.out, decide_eq_true (by omega)]⟩, below_drewN HB.out.bel _⟩
      · rw [decide_eq_false hz] at heq
        have HX : Hid ((x0, x1) ∉ l.take (k + 1)) := by
          show _ ∉ _
          rw [HD.out]
          intro h
          rcases List.mem_append.1 h with h | h
          · exact hg.out h
          · simp only [List.mem_singleton, Prod.mk.injEq] at h; exact hz h
        clear hz
        go_wp2_with fail
        go_quiet (fail)
        go_wp2_with fail
        go_roundw
        case rel => exact ⟨k + 1, by omega, by go_num, HX, HB.out.step (below_drewN (Below.refl _ _) _)⟩
        case measure => simp [intOf]; omega
    · have HX : Hid ((x0, x1) ∉ l) := by
        have := hg.out
        rwa [List.take_of_length_le (by omega)] at this
      clear hb
      go_wp2_with fail
      go_ret
      exact ⟨⟨_, rfl, by rw [decide_eq_false HX.out]; simp⟩, HB.out.bel⟩
theorem acontains_any (a : Option Addr) (cap : Nat) (l : List LockM.Ac) (x0 x1 : Int) (w : World) (hr : Acs w a l) (hl : l.length ≤ 100000) :
    Calls Try.prog 55 #[.slice a l.length cap, .agg #[.int .i64 x0, .int .i64 x1]] w fun e w' => e = .returned (.bool (decide ((x0, x1) ∈ l))) ∧ Below w.heap.size w w' := by
  have HI := hid (fun (W : World) (h : Below w.heap.size w W) => aindex_any a cap l x0 x1 W (hr.below h (Nat.le_refl _)) hl)
  generalize decide ((x0, x1) ∈ l) = M at *
  clear hr
  go_enter Try.func55, Try.ntmps55
  go_wp2_with fail
  refine (HI.out _ (B1.start w _ _).bel).mono ?_
  rintro e w1 ⟨⟨i, rfl, hi⟩, b1⟩
  have HB1 := hid ((B1.start w #[.int .i64 x0, .int .i64 x1] 74).step b1)
  have hi' := hid hi
  clear hi b1
  go_wp2_with fail
  go_ret
  exact ⟨by rw [← hi'.out]; rfl, HB1.out.bel⟩
/-! ceilings -/
theorem ceil_hit {l : List LockM.Wk} {q : Int} {k : Nat} (hk : k < l.length) (h0 : ∀ j, j < k → ((2 : Int), q) ∉ (l.getD j zWk).2) (h1 : ((2 : Int), q) ∈ (l.getD k zWk).2) : ceil l q = k := by
  have a := ceil_le (l := l) (i := k) (k := q) h1
  rcases Nat.lt_or_ge (ceil l q) k with c | c
  · have hlt : ceil l q < l.length := by omega
    have := List.findIdx_getElem (p := fun w : LockM.Wk => decide (((2 : Int), q) ∈ w.2)) (w := hlt)
    simp only [decide_eq_true_eq] at this
    refine absurd ?_ (h0 _ c)
    rw [List.getD_eq_getElem?_getD, List.getElem?_eq_getElem hlt, Option.getD_some]
    exact this
  · omega
theorem ceil_no {l : List LockM.Wk} {q : Int} (h0 : ∀ j, j < l.length → ((2 : Int), q) ∉ (l.getD j zWk).2) : ¬ ceil l q < l.length := by
  intro hlt
  have := List.findIdx_getElem (p := fun w : LockM.Wk => decide (((2 : Int), q) ∈ w.2)) (w := hlt)
  simp only [decide_eq_true_eq] at this
  refine absurd ?_ (h0 _ hlt)
  rw [List.getD_eq_getElem?_getD, List.getElem?_eq_getElem hlt, Option.getD_some]
  exact this
/-- .. as it is told -/
def ceilI (l : List LockM.Wk) (q : Int) : Int := if ceil l q < l.length then (ceil l q : Int) else -1
theorem wk_mem {l : List LockM.Wk} {k : Nat} (h : k < l.length) : l.getD k zWk ∈ l := by simp [List.getD, h]
set_option maxRecDepth 20000 in
set_option maxHeartbeats 1600000 in
theorem ceilCl_any (x : LockM.Wk) (q : Int) (X : Nat) (a : Option Addr) (c : Nat) (w : World) (hX : w.cell? ⟨X, 0, none⟩ = some (.int .i64 q)) (hr : Acs w a x.2) (hl : x.2.length ≤ 100000) :
    Calls Try.prog 54 #[.agg #[.int .i64 x.1, .slice a x.2.length c], .pointer (some ⟨X, 0, none⟩)] w fun e w' => e = .returned (.bool (decide (((2 : Int), q) ∈ x.2))) ∧ Below w.heap.size w w' := by
  have HC := hid (fun (W : World) (h : Below w.heap.size w W) => acontains_any a c x.2 2 q W (hr.below h (Nat.le_refl _)) hl)
  have hXb := World.block_lt_of_cell? w _ hX
  obtain ⟨cm, l⟩ := x
  simp only at HC
  generalize decide (((2 : Int), q) ∈ l) = M at *
  have cx : (w.alloc (.cells #[.int .i64 cm, .slice a l.length c] 70)).cell? ⟨X, 0, none⟩ = some (.int .i64 q) := Lib.cell?_alloc_some _ hX
  clear hr hX hXb
  go_enter Try.func54, Try.ntmps54
  go_wp2_with fail
  refine (HC.out _ (B1.start w _ _).bel).mono ?_
  rintro e w1 ⟨rfl, b1⟩
  have HB1 := hid ((B1.start w #[.int .i64 cm, .slice a l.length c] 70).step b1)
  clear b1 cx
  go_wp2_with fail
  go_ret
  exact ⟨rfl, HB1.out.bel⟩
set_option maxRecDepth 20000 in
set_option maxHeartbeats 1600000 in
theorem ceilIdx_any (l : List LockM.Wk) (q : Int) (X : Nat) (a : Option Addr) (c : Nat) (w : World) (hX : w.cell? ⟨X, 0, none⟩ = some (.int .i64 q)) (hr : Wks w a l) (hl : l.length ≤ 100000) (hm : ∀ x ∈ l, x.2.length ≤ 100000) :
    Calls Try.prog 53 #[.slice a l.length c, .func (.func 54) #[] #[.pointer (some ⟨X, 0, none⟩)]] w fun e w' => e = .returned (.int .i64 (ceilI l q)) ∧ Below w.heap.size w w' := by
  have HR := hid hr
  have hXb := World.block_lt_of_cell? w _ hX
  have HX := hid (fun (W : World) (h : Below w.heap.size w W) => ((h.cell hXb).trans hX : W.cell? ⟨X, 0, none⟩ = some (.int .i64 q)))
  have HLN := hid (fun k (hk : k < l.length) => hm _ (wk_mem hk))
  have HHIT := hid (fun k (hk : k < l.length) (h0 : ∀ j, j < k → ((2 : Int), q) ∉ (l.getD j zWk).2) (h1 : ((2 : Int), q) ∈ (l.getD k zWk).2) => (by unfold ceilI; rw [ceil_hit hk h0 h1, if_pos hk] : ceilI l q = (k : Int)))
  have HNO := hid (fun (h0 : ∀ j, j < l.length → ((2 : Int), q) ∉ (l.getD j zWk).2) => (by unfold ceilI; rw [if_neg (ceil_no h0)] : ceilI l q = -1))
  clear hr hX hm hXb
  generalize ceilI l q = CI at *
  go_enter Try.func53, Try.ntmps53
  go_wp2_with fail
  go_loopw [8] (fun v8 wr => ∃ (k : Nat), k ≤ l.length ∧ v8 = .int .i64 k ∧ Hid (∀ j, j < k → ((2 : Int), q) ∉ (l.getD j zWk).2) ∧ Below w.heap.size w wr) (fun v8 _ => l.length - (intOf v8).toNat)
  case atStart => exact ⟨0, by omega, rfl, (fun j h => by omega), Below.refl _ _⟩
  case round =>
    obtain ⟨k, hk, rfl, hg, hb⟩ := hrel
    have HB := hid hb
    by_cases hlt : k < l.length
    · obtain ⟨b, off, rfl, _, d1, a', c', d2, _, hac⟩ := (HR.out.below hb (Nat.le_refl _)).at k hlt
      have HCL := hid (ceilCl_any (l.getD k zWk) q X a' c' wr (HX.out wr hb) hac (HLN.out k hlt))
      have HH := hid (fun h1 => HHIT.out k hlt hg.out h1)
      have HN := hid (fun (h1 : ((2 : Int), q) ∉ (l.getD k zWk).2) => (fun j hj => by
        by_cases e : j = k
        · subst e; exact h1
        · exact hg.out j (by omega) : ∀ j, j < k + 1 → ((2 : Int), q) ∉ (l.getD j zWk).2))
      have i1 : (k : Int) < (l.length : Int) := by omega
      clear hb hac
      generalize l.getD k zWk = x at *
      obtain ⟨cm, la⟩ := x
      simp only at d1 d2 HCL HH HN
      by_cases hz : ((2 : Int), q) ∈ la
      · rw [decide_eq_true hz] at HCL
        have HE := hid (HH.out hz)
        clear hz
        go_wp2_with fail
        refine HCL.out.mono ?_
        rintro e w1 ⟨rfl, b1⟩
        have HB1 := hid (bel_of HB.out b1)
        clear b1
        go_wp2_with fail
        go_ret
        exact ⟨by rw [HE.out]; rfl, HB1.out⟩
      · rw [decide_eq_false hz] at HCL
        have HE := hid (HN.out hz)
        clear hz
        go_wp2_with fail
        refine HCL.out.mono ?_
        rintro e w1 ⟨rfl, b1⟩
        have HB1 := hid (bel_of HB.out b1)
        clear b1
        go_wp2_with fail
        go_roundw
        case rel => exact ⟨k + 1, by omega, by go_num, HE.out, HB1.out⟩
        case measure => simp [intOf]; omega
    · obtain rfl : k = l.length := by omega
      have HE := hid (HNO.out hg.out)
      clear hb
      go_wp2_with fail
      go_ret
      exact ⟨by rw [HE.out]; rfl, HB.out⟩
set_option maxRecDepth 20000 in
theorem CeilingOf_any (l : List LockM.Wk) (q : Int) (a : Option Addr) (c : Nat) (w : World) (hr : Wks w a l) (hl : l.length ≤ 100000) (hm : ∀ x ∈ l, x.2.length ≤ 100000) :
    Calls Try.prog 36 #[.slice a l.length c, .int .i64 q] w fun e w' => e = .returned (.int .i64 (ceilI l q)) ∧ Below w.heap.size w w' := by
  have b0 := B1.start w #[.int .i64 q] 3
  have HC := hid (ceilIdx_any l q w.heap.size a c _ (by rw [b0.c0 0]; rfl) (hr.below b0.bel (Nat.le_refl _)) hl hm)
  clear hr hm b0
  generalize ceilI l q = CI at *
  go_enter Try.func36, Try.ntmps36
  go_wp2_with fail
  refine HC.out.mono ?_
  rintro e w1 ⟨rfl, b1⟩
  have HB1 := hid ((B1.start w #[.int .i64 q] 3).step b1)
  clear b1
  go_wp2_with fail
  go_ret
  exact ⟨rfl, HB1.out.bel⟩
end LockC
end Go.Proofs.Ytllfpbngfkimlaa
