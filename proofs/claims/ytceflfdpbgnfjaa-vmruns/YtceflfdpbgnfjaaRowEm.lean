/- Rows of api.Emit that a call makes: slices.Clone (gen_rows.py writes this text). -/
import Derived.Test.YtceflfdpbgnfjaaOpenEm
import Derived.Test.YtceflfdpbgnfjaaSpanW
import Derived.Lib.OwnBridge
set_option linter.unusedVariables false
namespace Go.Proofs.Ytceflfdpbgnfjaa
open Go.RowKit
open SpanM SpanC
namespace RowsO
theorem infoEm : (Try.prog.info? 39).map (fun i => (i.zero, i.size, i.bytes)) = some (some (.agg #[.int .i64 0, .int .i64 0]), 2, 16) := by kernel_rfl
def encEm (x : Em) : List Value := [.int .i64 x.1, .int .i64 x.2]
/-- rows as cells -/
def flatEm : List Em → List Value
  | [] => []
  | x :: r => .int .i64 x.1 :: .int .i64 x.2 :: flatEm r
theorem flatEm_length (l : List Em) : (flatEm l).length = l.length * 2 := by
  induction l with
  | nil => rfl
  | cons x r ih => simp only [flatEm, List.length_cons, ih]; omega
theorem flatEm_append (l r : List Em) : flatEm (l ++ r) = flatEm l ++ flatEm r := by
  induction l with
  | nil => rfl
  | cons x s ih => simp [flatEm, ih]
theorem flatEm_at (l : List Em) (i : Nat) (h : i < l.length) : (flatEm l)[i * 2]? = some (.int .i64 (l.getD i zEm).1) ∧ (flatEm l)[i * 2 + 1]? = some (.int .i64 (l.getD i zEm).2) := by
  induction l generalizing i with
  | nil => simp at h
  | cons x r ih =>
    cases i with
    | zero => simp [flatEm]
    | succ i =>
      have := ih i (by simpa using h)
      rw [show (i + 1) * 2 = i * 2 + 1 + 1 by omega]
      simpa [flatEm, List.getD] using this
theorem flatEm_one (l : List Em) : ∀ u ∈ flatEm l, u.oneCell' = true := by
  induction l with
  | nil => simp [flatEm]
  | cons x r ih =>
    intro u hu
    simp only [flatEm, List.mem_cons] at hu
    rcases hu with rfl | rfl | hu
    · rfl
    · rfl
    · exact ih u hu
/-- rows that a call has made, their memory from block B on -/
def OwnEm (w : World) (B : Nat) (v : Value) (l : List Em) : Prop := w.ownsRow B 39 2 v l.length (flatEm l)
theorem OwnEm.nil (w : World) (B : Nat) : OwnEm w B (.slice none 0 0) [] := World.ownsRow_nil w B _ _
theorem OwnEm.form {w : World} {B : Nat} {v : Value} {l : List Em} (h : OwnEm w B v l) : (v = .slice none 0 0 ∧ l = []) ∨ ∃ g cap, v = .slice (some ⟨g, 0, none⟩) l.length cap ∧ B ≤ g ∧ g < w.heap.size ∧ l.length ≤ cap ∧ cap ≤ maxLen := by
  rcases h.2 with ⟨rfl, h0⟩ | ⟨g, cap, cur, rfl, hb, hg, h1, h2, _⟩
  · exact .inl ⟨rfl, List.length_eq_zero_iff.1 h0⟩
  · exact .inr ⟨g, cap, rfl, hb, (Array.getElem?_eq_some_iff.1 hg).1, h1, h2⟩
theorem OwnEm.rows {w : World} {B : Nat} {v : Value} {l : List Em} (h : OwnEm w B v l) : ∃ a cap, v = .slice a l.length cap ∧ Ems w a l := by
  rcases h.form with ⟨rfl, rfl⟩ | ⟨g, cap, rfl, hb, hg, h1, h2⟩
  · exact ⟨none, 0, rfl, .inl rfl⟩
  · refine ⟨_, cap, rfl, .inr ⟨g, 0, rfl, fun i hi => ?_⟩⟩
    obtain ⟨f1, f2⟩ := flatEm_at l i hi
    have c1 := World.ownsRow.cellAt h (i * 2) (by omega)
    have c2 := World.ownsRow.cellAt h (i * 2 + 1) (by omega)
    rw [Nat.zero_add]
    exact ⟨by rw [c1, f1], by rw [c2, f2]⟩
theorem OwnEm.slice {w : World} {B : Nat} {v : Value} {l : List Em} (h : OwnEm w B v l) : ∃ a n c, v = .slice a n c := by
  rcases h.form with ⟨rfl, _⟩ | ⟨g, cap, rfl, _⟩
  · exact ⟨_, _, _, rfl⟩
  · exact ⟨_, _, _, rfl⟩
theorem OwnEm.below {w w' : World} {B C : Nat} {v : Value} {l : List Em} (h : OwnEm w B v l) (hb : Below C w w') (hC : w.heap.size ≤ C) : OwnEm w' B v l :=
  World.ownsRow.kept h (grown_of_below hb hC none) (by cases v.ownBlock <;> simp)
theorem OwnEm.base {w : World} {B C : Nat} {v : Value} {l : List Em} (h : OwnEm w B v l) (hC : C ≤ B) : OwnEm w C v l := by
  refine ⟨h.1, ?_⟩
  rcases h.2 with h0 | ⟨g, cap, cur, h1, h2, h3⟩
  · exact .inl h0
  · exact .inr ⟨g, cap, cur, h1, by omega, h3⟩
theorem Ems.add {w : World} {p : Addr} {l : List Em} (h : Ems w (some p) l) : ∀ j u, (flatEm l)[j]? = some u → w.cell? (p.add j) = some u := by
  intro j u hj
  have hlt : j < l.length * 2 := by
    have := (List.getElem?_eq_some_iff.1 hj).1
    rwa [flatEm_length] at this
  obtain ⟨b, off, e, _, c1, c2⟩ := h.at (j / 2) (by omega)
  simp only [Option.some.injEq] at e
  subst e
  have ha : (⟨b, off, none⟩ : Addr).add j = ⟨b, off + j, none⟩ := by
    by_cases h0 : j = 0 <;> simp [Addr.add, h0]
  rw [ha]
  obtain ⟨f1, f2⟩ := flatEm_at l (j / 2) (by omega)
  have hc : j % 2 = 0 ∨ j % 2 = 1 := by omega
  rcases hc with hc | hc
  · have e : j = j / 2 * 2 := by omega
    rw [e] at hj ⊢
    rw [f1] at hj; rw [c1]; exact hj
  · have e : j = j / 2 * 2 + 1 := by omega
    rw [e] at hj ⊢
    rw [f2] at hj; rw [← Nat.add_assoc, c2]; exact hj
theorem eqNilEm (w : World) (a : Option Addr) (n c n' c' : Nat) : (binOp .eql 26 (.slice a n c) (.slice none n' c')).run Try.prog w = .ok (.bool a.isNone) w := Lib.run_eql_slice_nil w _ _ a n c n' c' Try.underlying26
set_option maxRecDepth 20000 in
theorem cloneEm_some (p : Addr) (cap : Nat) (l : List Em) (w : World) (h : Ems w (some p) l) (hm : l.length ≤ maxLen) (hl : l.length * 16 ≤ 140737488355328) :
    Calls Try.prog 19 #[.slice (some p) l.length cap] w fun e w' => (∃ v, e = .returned v ∧ OwnEm w' w.heap.size v l) ∧ Below w.heap.size w w' := by
  obtain ⟨i0, hi, hz0, hz1, hz2⟩ := info_parts infoEm
  have Hi := hid hi
  have Hz0 := hid hz0
  have Hz1 := hid hz1
  have Hz2 := hid hz2
  clear hi hz0 hz1 hz2
  have q := eqNilEm
  have HA := hid h
  have HM := hid hm
  have HL := hid hl
  clear h hm hl
  go_enter Try.func19, Try.ntmps19
  go_wp2_with (at_builtin; refine wpList_append_own _ rfl _ _ 26 rfl w.heap.size 39 i0 (.agg #[.int .i64 0, .int .i64 0]) 2 16 Try.underlying26 Hi.out Hz0.out Hz1.out Hz2.out rfl (by decide) _ _ _ rfl (World.ownsRow_made w #[] 0 (Nat.le_refl _) (Nat.zero_le _) rfl) p l.length cap (flatEm l) rfl ?qc1 ?qc2 ?qc3 ?qc4 ?qc5 ?qc6 ?_)
  case qc1 => exact flatEm_length l
  case qc2 => exact (HA.out.below (Below.alloc (Below.refl _ _) (Nat.le_refl _) _) (Nat.le_refl _)).add
  case qc3 => exact flatEm_one l
  case qc4 => have := HM.out; omega
  case qc5 => have := HL.out; omega
  case qc6 => simp
  intro v' w1 hown hgrow hnil
  have HO : Hid (OwnEm w1 w.heap.size v' l) := by
    show w1.ownsRow _ _ _ _ _ _
    simpa using hown
  have HB := hid (Below.grown (Below.alloc (Below.refl _ w) (Nat.le_refl _) _) hgrow (by simp) (by intro k hk; simp [Value.ownBlock] at hk; omega))
  obtain ⟨a, n, c, rfl⟩ := OwnEm.slice (show OwnEm _ _ _ _ from HO.out)
  clear hown hgrow hnil
  go_wp2
  go_ret
  exact ⟨⟨_, rfl, HO.out⟩, HB.out⟩
theorem cloneEm_any (a : Option Addr) (cap : Nat) (l : List Em) (w : World) (h : Ems w a l) (nz : a = none → cap = 0) (hm : l.length ≤ maxLen) (hl : l.length * 16 ≤ 140737488355328) :
    Calls Try.prog 19 #[.slice a l.length cap] w fun e w' => (∃ v, e = .returned v ∧ OwnEm w' w.heap.size v l) ∧ Below w.heap.size w w' := by
  cases a with
  | none =>
    obtain rfl := nz rfl
    obtain rfl : l = [] := by
      rcases h with h | ⟨b, off, h, _⟩
      · exact h
      · simp at h
    have q := eqNilEm
    clear h nz hl hm
    go_enter Try.func19, Try.ntmps19
    go_wp2
    go_ret
    exact ⟨⟨_, rfl, OwnEm.nil _ _⟩, Below.refl _ _⟩
  | some p => exact cloneEm_some p cap l w h hm hl
/-- 'append(v, m...)' -/
theorem wpList_appendEm {ops : Array Oper} {rest : List Oper} {o : Oper} {a : Act} {Q : Exit → Act → World → Prop} {w : World} (hgd : o.guard = none) (s x : Operand)
    (ho : o.op = .call { callee := .builtin .append, args := #[s, x], argTypes := #[26, 26] })
    (B : Nat) (v : Value) (l m : List Em) (sa : Option Addr) (len cap : Nat) (hs : a.eval s = v) (hown : OwnEm w B v l) (hx : a.eval x = .slice sa len cap) (hlen : len = m.length) (hm : Ems w sa m) (hz : sa = none → len = 0 ∧ cap = 0)
    (h63 : l.length + m.length ≤ maxLen) (hbytes : (l.length + m.length) * 16 ≤ 140737488355328) (hB : B ≤ w.heap.size)
    (h : ∀ v' w', OwnEm w' B v' (l ++ m) → w.grownBy w' v.ownBlock → wpList Try.prog ops Q rest (a.put o.dst v') w') : wpList Try.prog ops Q (o :: rest) a w := by
  obtain ⟨i0, hi, hz0, hz1, hz2⟩ := info_parts infoEm
  cases sa with
  | none =>
    obtain ⟨e1, rfl⟩ := hz rfl
    obtain rfl : m = [] := List.length_eq_zero_iff.1 (by omega)
    rw [e1] at hx
    refine wpList_append_own_none hgd s x 26 ho B 39 i0 2 Try.underlying26 hi v l.length (flatEm l) hs hown hx (h v w (by simpa using hown) ⟨rfl, rfl, rfl, Nat.le_refl _, fun _ _ _ => rfl⟩)
  | some p =>
    subst hlen
    refine wpList_append_own _ hgd s x 26 ho B 39 i0 (.agg #[.int .i64 0, .int .i64 0]) 2 16 Try.underlying26 hi hz0 hz1 hz2 rfl (by decide) v l.length (flatEm l) hs hown p m.length cap (flatEm m) hx (flatEm_length m) hm.add (flatEm_one m) h63 hbytes hB ?_
    intro v' w' h1 h2 _
    refine h v' w' ?_ h2
    unfold OwnEm
    rw [flatEm_append, List.length_append]
    exact h1
/-- what lies there, and lies no more where it lay: all cells of one row anew -/
theorem OwnEm.holdsAt {w : World} {B g cap : Nat} {l : List Em} (h : OwnEm w B (.slice (some ⟨g, 0, none⟩) l.length cap) l) (j : Nat) (hj : j < l.length * 2) : w.cell? ⟨g, j, none⟩ = (flatEm l)[j]? ∧ w.frozen? ⟨g, j, none⟩ = false :=
  ⟨World.ownsRow.cellAt h j hj, World.ownsRow.frozenAt h j⟩
end RowsO
end Go.Proofs.Ytceflfdpbgnfjaa
