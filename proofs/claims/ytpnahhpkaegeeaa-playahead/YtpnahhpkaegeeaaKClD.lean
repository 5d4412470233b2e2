/- Several texts, one behind the other: ClD. -/
import Derived.Test.YtpnahhpkaegeeaaKIdA
import Derived.Test.YtpnahhpkaegeeaaKPlyC
import Derived.Laws.IdiomCopy
/- slices.Clone and slices.DeleteFunc of rows of api.Done. -/
set_option linter.unusedVariables false
namespace Go.Proofs.Ytpnahhpkaegeeaa
open Go.RowKit hiding tok
open Go.Shelf
open SpanM SpanC TaskM PlayM
open RowsO hiding Tk
namespace PlayC
open NumC (Row)
open RowG
theorem eqNilD (w : World) (a : Option Addr) (n c n' c' : Nat) : (binOp .eql 27 (.slice a n c) (.slice none n' c')).run Try.prog w = .ok (.bool a.isNone) w := Lib.run_eql_slice_nil w _ _ a n c n' c' Try.underlying27
theorem flatD_at (l : List Pl.Dn) {j : Nat} {u : Value} (h : (ED.flat l)[j]? = some u) : ∃ i k, ∃ hi : i < l.length, k < 4 ∧ j = i * 4 + k ∧ (ED.enc l[i])[k]? = some u := by
  have hlt := (List.getElem?_eq_some_iff.1 h).1
  have hfl : (ED.flat l).length = l.length * 4 := RowG.flat_length ED l
  rw [hfl] at hlt
  have e : j = j / 4 * 4 + j % 4 := by omega
  refine ⟨j / 4, j % 4, by omega, by omega, e, ?_⟩
  rw [e] at h
  have hf : (ED.flat l)[j / 4 * 4 + j % 4]? = (ED.enc l[j / 4])[j % 4]? := flat_get ED l (j / 4) (j % 4) (by omega) (by show j % 4 < 4; omega)
  rwa [hf] at h
theorem rdD_flat {w : World} {b off : Nat} {l : List Pl.Dn} (h : Rd ED w (some ⟨b, off, none⟩) l) : ∀ j u, (ED.flat l)[j]? = some u → w.cell? ((⟨b, off, none⟩ : Addr).add j) = some u := by
  intro j u hj
  obtain ⟨i, k, hi, hk4, rfl, hu⟩ := flatD_at l hj
  obtain ⟨b', off', e, hc⟩ := h.at i hi
  injection e with e
  injection e with e1 e2
  subst e1 e2
  have hk := hc k (by show k < 4; omega)
  rw [show ED.k = 4 from rfl] at hk
  rw [add_off, ← Nat.add_assoc, hk, hu]
set_option maxRecDepth 20000 in
theorem cloneD_any (a : Option Addr) (cap : Nat) (l : List Pl.Dn) (w : World) (h : Rd ED w a l) (nz : a = none → l.length = 0 ∧ cap = 0) (hl : l.length ≤ 100000) :
    Calls Try.prog 33 #[.slice a l.length cap] w fun e w' => (∃ v, e = .returned v ∧ OwnD w' w.heap.size v l) ∧ Below w.heap.size w w' := by
  cases a with
  | none =>
    obtain ⟨n0, rfl⟩ := nz rfl
    obtain rfl : l = [] := List.length_eq_zero_iff.1 n0
    have q := eqNilD
    clear h nz hl
    go_enter Try.func33, Try.ntmps33
    go_wp2
    go_ret
    exact ⟨⟨_, rfl, Own.nil _ _ _ _⟩, Below.refl _ _⟩
  | some p =>
    obtain ⟨i0, hi, hz0, hz1, hz2⟩ := info_parts infoD
    have Hi := hid hi
    have Hz0 := hid hz0
    have Hz1 := hid hz1
    have Hz2 := hid hz2
    clear hi hz0 hz1 hz2
    have q := eqNilD
    obtain ⟨b, off, sp⟩ := p
    have HA := hid h
    have HL := hid hl
    have HF : Hid (l = [] ∨ sp = none) := by
      rcases h with h | ⟨b', off', e, _⟩
      · exact .inl h
      · injection e with e; injection e with _ _ e; exact .inr e
    have hfl : (ED.flat l).length = l.length * 4 := RowG.flat_length ED l
    have HFL := hid hfl
    clear h hl nz hfl
    go_enter Try.func33, Try.ntmps33
    go_wp2_with (at_builtin; refine wpList_append_own _ rfl _ _ 27 rfl w.heap.size 40 i0 (.agg #[.int .i64 0, .int .i64 0, .int .i64 0, .int .i64 0]) 4 32 Try.underlying27 Hi.out Hz0.out Hz1.out Hz2.out rfl (by decide) _ _ _ rfl (World.ownsRow_made w #[] 0 (Nat.le_refl _) (Nat.zero_le _) rfl) ⟨b, off, sp⟩ l.length cap (ED.flat l) rfl ?qc1 ?qc2 ?qc3 ?qc4 ?qc5 ?qc6 ?_)
    case qc1 => exact HFL.out
    case qc2 =>
      rcases HF.out with rfl | rfl
      · intro j u hj; simp [Enc.flat] at hj
      · exact rdD_flat (HA.out.below (Below.alloc (Below.refl _ _) (Nat.le_refl _) _) (Nat.le_refl _))
    case qc3 => exact flat_one ED l
    case qc4 => have := HL.out; unfold maxLen; omega
    case qc5 => have := HL.out; omega
    case qc6 => simp
    intro v' w1 hown hgrow hnil
    have HO : Hid (OwnD w1 w.heap.size v' l) := by
      show w1.ownsRow w.heap.size 40 4 v' l.length (ED.flat l)
      simpa using hown
    have HB := hid (Below.grown (Below.alloc (Below.refl _ w) (Nat.le_refl _) _) hgrow (by simp) (by intro k hk; simp [Value.ownBlock] at hk; omega))
    obtain ⟨a, c, rfl⟩ := Own.slice HO.out
    clear hown hgrow hnil
    go_wp2
    go_ret
    exact ⟨⟨_, rfl, HO.out⟩, HB.out⟩
/-- so many noughts -/
def zl (m : Nat) : List Value := (Builtin.zeroCells #[.int .i64 0, .int .i64 0, .int .i64 0, .int .i64 0] m).toList
theorem zl_len (m : Nat) : (zl m).length = m * 4 := by simp [zl, Builtin.zeroCells]
theorem zl_one (m : Nat) : ∀ v ∈ zl m, v.oneCell' = true := by
  intro v hv
  simp only [zl, Builtin.zeroCells, Array.toList_map, List.mem_map] at hv
  obtain ⟨i, _, rfl⟩ := hv
  have : i % 4 < 4 := Nat.mod_lt _ (by omega)
  generalize i % 4 = r at *
  match r, this with
  | 0, _ => rfl
  | 1, _ => rfl
  | 2, _ => rfl
  | 3, _ => rfl
theorem run_clearD (w : World) (ty : TypeId) (b o m c : Nat) (hc : ∀ j, j < (m + 1) * 4 → (w.cell? ⟨b, o + j, none⟩).isSome = true) (hf : ∀ j, j < (m + 1) * 4 → w.frozen? ⟨b, o + j, none⟩ = false) :
    (Builtin.clear_ #[27] ty #[.slice (some ⟨b, o, none⟩) (m + 1) c]).run Try.prog w = .ok (.tuple #[]) (w.setCells b o (zl (m + 1))) := by
  have hst := run_storeCells_cells (P := Try.prog) b o (zl (m + 1)) 0 w (by rw [zl_len]; simpa using hc) (by rw [zl_len]; simpa using hf) (zl_one _)
  simp only [Nat.add_zero] at hst
  have hv := Try.zeroValue40
  have hzc : (Builtin.zeroCells (Value.agg #[.int .i64 0, .int .i64 0, .int .i64 0, .int .i64 0]).cells (m + 1)).toList = zl (m + 1) := rfl
  simp [Builtin.clear_, run_underlying Try.underlying27, hv, hzc, hst]
theorem own_clear {w : World} {B g n cap i m : Nat} {l : List Pl.Dn} (h : OwnD w B (.slice (some ⟨g, 0, none⟩) n cap) l) (hi : i + m ≤ l.length) :
    OwnD (w.setCells g (i * 4) (zl m)) B (.slice (some ⟨g, 0, none⟩) i cap) (l.take i) ∧ w.grownBy (w.setCells g (i * 4) (zl m)) (some g) := by
  obtain ⟨a, c, e⟩ := h.slice
  simp only [Value.slice.injEq] at e
  obtain ⟨_, rfl, _⟩ := e
  obtain ⟨h1, h2⟩ := own_setCells (zl m) (i * 4) h
  refine ⟨?_, h2⟩
  have h3 := own_take h1 (show i ≤ l.length by omega)
  have hfl : (ED.flat (l.take i)).length = i * 4 := by rw [RowG.flat_length, List.length_take, Nat.min_eq_left (by omega)]; rfl
  have e2 : (putL (ED.flat l) (i * 4) (zl m)).take (i * 4) = ED.flat (l.take i) := by
    have e1 : ED.flat l = ED.flat (l.take i) ++ ED.flat ((l.drop i).take m) ++ ED.flat ((l.drop i).drop m) := by
      rw [List.append_assoc, ← RowG.flat_append, List.take_append_drop, ← RowG.flat_append, List.take_append_drop]
    have hz : (ED.flat ((l.drop i).take m)).length = (zl m).length := by
      rw [RowG.flat_length, List.length_take, List.length_drop, zl_len, Nat.min_eq_left (by omega)]; rfl
    rw [e1, ← hfl, putL_eq _ _ _ _ hz, List.append_assoc, List.take_left]
  show World.ownsRow _ _ _ _ _ _ _
  rw [List.length_take, Nat.min_eq_left (by omega), ← e2]
  exact h3
end PlayC
end Go.Proofs.Ytpnahhpkaegeeaa
