/- Contracts of the document's own answers about locks: Units. -/
import Derived.Test.YtllfpbngfkimlaaInts
import Derived.Test.YtllfpbngfkimlaaOpenWk
import Derived.Test.YtllfpbngfkimlaaLockM4
set_option linter.unusedVariables false
namespace Go.Proofs.Ytllfpbngfkimlaa
open Go.RowKit
open Go.Shelf Go.Sort
open SpanM SpanC IntsC
open RowsO hiding Wk
namespace LockC
open LockM
open NumC (Row)
theorem units_append : ∀ (l r : List LockM.Ac) (b : Nat), units b (l ++ r) = units b l ++ units (b + l.length) r
  | [], r, b => by simp [units]
  | a :: l, r, b => by
    simp only [List.cons_append, units, units_append l r (b + 1), List.append_assoc, List.length_cons]
    rw [show b + 1 + l.length = b + (l.length + 1) by omega]
/-- the acts' numbers, as they are told -/
def unitsI (l : List LockM.Ac) : List Int := (units 0 l).map fun (i : Nat) => (i : Int)
theorem unitsI_len (l : List LockM.Ac) : (unitsI l).length = (units 0 l).length := by simp [unitsI]
theorem ac_snoc (l : List LockM.Ac) (k : Nat) (h : k < l.length) : l.take (k + 1) = l.take k ++ [l.getD k zAc] := by
  rw [List.take_succ_eq_append_getElem h]; simp [List.getD, h]
theorem ac_mem {l : List LockM.Ac} {k : Nat} (h : k < l.length) : l.getD k zAc ∈ l := by simp [List.getD, h]
theorem unitsI_next (l : List LockM.Ac) {k : Nat} (h : k < l.length) : unitsI (l.take (k + 1)) = unitsI (l.take k) ++ (if (l.getD k zAc).1 = 1 then List.replicate (l.getD k zAc).2.toNat (k : Int) else []) := by
  unfold unitsI
  rw [ac_snoc l k h, units_append, List.map_append]
  congr 1
  simp only [units, List.append_nil, List.length_take, Nat.zero_add, show min k l.length = k by omega]
  split <;> simp
theorem unitsI_few {l : List LockM.Ac} (hN : ∀ a ∈ l, a.1 = 1 → a.2 ≤ 100) : (unitsI l).length ≤ l.length * 100 := by
  rw [unitsI_len]
  have key : ∀ (l : List LockM.Ac) (b : Nat), (∀ a ∈ l, a.1 = 1 → a.2 ≤ 100) → (units b l).length ≤ l.length * 100 := by
    intro l
    induction l with
    | nil => intro b _; simp [units]
    | cons a r ih =>
      intro b h
      have h1 := ih (b + 1) fun x hx => h x (by simp [hx])
      have h2 := h a (by simp)
      simp only [units, List.length_append, List.length_cons]
      split
      · rename_i e
        have := h2 e
        simp only [List.length_replicate]; omega
      · simp; omega
  exact key l 0 hN
set_option maxRecDepth 20000 in
set_option maxHeartbeats 1600000 in
theorem Units_any (cm : Int) (l : List LockM.Ac) (a : Option Addr) (c : Nat) (w : World) (hr : Acs w a l) (hn : l.length ≤ 30) (hN : ∀ x ∈ l, x.1 = 1 → 0 ≤ x.2 ∧ x.2 ≤ 100) :
    Calls Try.prog 34 #[.agg #[.int .i64 cm, .slice a l.length c]] w fun e w' => (∃ v, e = .returned v ∧ OwnI w' w.heap.size v (unitsI l)) ∧ Below w.heap.size w w' := by
  have HR := hid hr
  have HN := hid (fun k (hk : k < l.length) => hN _ (ac_mem hk))
  have HNX := hid (fun k (hk : k < l.length) => unitsI_next l hk)
  have HFW := hid (fun k => unitsI_few (l := l.take k) (fun x hx e => (hN x (List.mem_of_mem_take hx) e).2))
  have HALL := hid (List.take_of_length_le (Nat.le_refl l.length))
  clear hr hN
  go_enter Try.func34, Try.ntmps34
  go_wp2_with fail
  go_loopw [3, 9] (fun v3 v9 wr => ∃ k : Nat, k ≤ l.length ∧ v9 = .int .i64 k ∧ OwnI wr (w.heap.size + 1) v3 (unitsI (l.take k)) ∧ B1 w wr #[.int .i64 cm, .slice a l.length c] 70) (fun _ v9 _ => l.length - (intOf v9).toNat)
  case atStart => exact ⟨0, by omega, rfl, World.ownsRow_nil _ _ _ _, B1.start _ _ _⟩
  case round =>
    obtain ⟨k, hk, rfl, ho, hb⟩ := hrel
    have HO := hid ho
    have HB := hid hb
    have HSZ := hid hb.bel.size
    obtain ⟨a3, n3, k3, rfl⟩ := OwnI.slice ho
    by_cases hlt : k < l.length
    · obtain ⟨b, off, rfl, _, d1, d2⟩ := (HR.out.below hb.bel (Nat.le_refl _)).at k hlt
      have HX := hid (HNX.out k hlt)
      have hnn := HN.out k hlt
      have HFK := hid (HFW.out k)
      generalize l.getD k zAc = x at *
      obtain ⟨x1, x2⟩ := x
      simp only at d1 d2 hnn
      have i1 : (k : Int) < (l.length : Int) := by omega
      clear ho hb
      by_cases hq : x1 = 1
      · obtain ⟨n0, n1⟩ := hnn hq
        have e1 : (x1 == 1) = true := by simp [hq]
        have HX2 : Hid (unitsI (l.take (k + 1)) = unitsI (l.take k) ++ List.replicate x2.toNat (k : Int)) := by
          show _ = _
          rw [HX.out, if_pos hq]
        obtain ⟨N, rfl⟩ : ∃ N : Nat, x2 = N := ⟨x2.toNat, by omega⟩
        rw [Int.toNat_natCast] at HX2
        clear hq hnn
        go_wp2_with fail
        obtain ⟨w0, hw0⟩ : ∃ y, y = wr := ⟨_, rfl⟩
        subst hw0
        go_loopw [3, 19] (fun v3 v19 wr => ∃ j : Nat, j ≤ N ∧ v19 = .int .i64 j ∧ OwnI wr (w.heap.size + 1) v3 (unitsI (l.take k) ++ List.replicate j (k : Int)) ∧ B1 w wr #[.int .i64 cm, .slice (some ⟨b, off, none⟩) l.length c] 70) (fun _ v19 _ => N - (intOf v19).toNat)
        case atStart => exact ⟨0, by omega, rfl, by rw [List.replicate_zero, List.append_nil]; exact World.ownsRow.alloc HO.out _, HB.out.row (World.grownBy_alloc _ _ none) (fun g hg => by simp at hg)⟩
        case round =>
          obtain ⟨j, hj, rfl, ho, hb⟩ := hrel
          have HO2 := hid ho
          have HB2 := hid hb
          have HSZ2 := hid hb.size
          obtain ⟨a4, n4, k4, rfl⟩ := OwnI.slice ho
          by_cases hlt2 : j < N
          · have i2 : (j : Int) < (N : Int) := by omega
            clear ho hb
            go_wp2_with (at_builtin; refine wpList_appendI rfl _ _ rfl (w.heap.size + 1) _ (unitsI (l.take k) ++ List.replicate j (k : Int)) [(k : Int)] ⟨wr.heap.size, 0, none⟩ 1 1 rfl ?qc0 rfl rfl ?qc1 ?qc2 ?qc3 ?_)
            case qc0 => exact World.ownsRow.alloc HO2.out _
            case qc1 => exact World.news_of_block (heap_alloc_new wr _)
            case qc2 =>
              have h1 := HFK.out
              rw [List.length_take] at h1
              simp only [List.length_append, List.length_replicate, List.length_singleton]
              omega
            case qc3 => have := HSZ2.out; rw [World.size_alloc]; omega
            intro v8 w8 hown8 hgrow8
            have HB8 := hid (B1.row (HB2.out.row (World.grownBy_alloc wr (.cells #[.int .i64 k] 3) none) (fun g hg => by simp at hg)) hgrow8 (fun g hg => (World.ownsRow.lt HO2.out g hg).1))
            try rw [List.append_assoc] at hown8
            have hrep : List.replicate j (k : Int) ++ [(k : Int)] = List.replicate (j + 1) (k : Int) := List.replicate_succ'.symm
            rw [hrep] at hown8
            clear hrep
            have HO8 := hid hown8
            clear hown8 hgrow8
            go_wp2_with fail
            go_roundw
            case rel => exact ⟨j + 1, by omega, by go_num, HO8.out, HB8.out⟩
            case measure => simp [intOf]; omega
          · obtain rfl : j = N := by omega
            clear ho hb
            go_wp2_with fail
            go_roundw
            case rel => exact ⟨k + 1, by omega, by go_num, by rw [HX2.out]; exact HO2.out, HB2.out⟩
            case measure => simp [intOf]; omega
      · have e1 : (x1 == 1) = false := by simp [hq]
        have HX2 : Hid (unitsI (l.take (k + 1)) = unitsI (l.take k)) := by
          show _ = _
          rw [HX.out, if_neg hq, List.append_nil]
        clear hq hnn
        go_wp2_with fail
        go_roundw
        case rel => exact ⟨k + 1, by omega, by go_num, by rw [HX2.out]; exact World.ownsRow.alloc HO.out _, HB.out.row (World.grownBy_alloc _ _ none) (fun g hg => by simp at hg)⟩
        case measure => simp [intOf]; omega
    · obtain rfl : k = l.length := by omega
      rw [HALL.out] at HO
      clear ho hb
      go_wp2_with fail
      go_ret
      exact ⟨⟨_, rfl, OwnI.base' HO.out (by omega)⟩, HB.out.bel⟩
end LockC
end Go.Proofs.Ytllfpbngfkimlaa
