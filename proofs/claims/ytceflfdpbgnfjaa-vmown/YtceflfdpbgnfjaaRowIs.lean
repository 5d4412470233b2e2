/- Rows of api.Ins that a call makes: slices.Clone (gen_rows.py writes this text). -/
import Derived.Test.YtceflfdpbgnfjaaOpenIs
import Derived.Test.YtceflfdpbgnfjaaSpanW
import Derived.Lib.OwnBridge
set_option linter.unusedVariables false
namespace Go.Proofs.Ytceflfdpbgnfjaa
open Go.RowKit
open SpanM SpanC
namespace RowsO
theorem infoIs : (Try.prog.info? 45).map (fun i => (i.zero, i.size, i.bytes)) = some (some (.agg #[.int .i64 0, .int .i64 0, .int .i64 0]), 3, 24) := by kernel_rfl
def encIs (x : Is) : List Value := [.int .i64 x.1, .int .i64 x.2.1, .int .i64 x.2.2]
/-- rows as cells -/
def flatIs : List Is → List Value
  | [] => []
  | x :: r => .int .i64 x.1 :: .int .i64 x.2.1 :: .int .i64 x.2.2 :: flatIs r
theorem flatIs_length (l : List Is) : (flatIs l).length = l.length * 3 := by
  induction l with
  | nil => rfl
  | cons x r ih => simp only [flatIs, List.length_cons, ih]; omega
theorem flatIs_append (l r : List Is) : flatIs (l ++ r) = flatIs l ++ flatIs r := by
  induction l with
  | nil => rfl
  | cons x s ih => simp [flatIs, ih]
theorem flatIs_at (l : List Is) (i : Nat) (h : i < l.length) : (flatIs l)[i * 3]? = some (.int .i64 (l.getD i zIs).1) ∧ (flatIs l)[i * 3 + 1]? = some (.int .i64 (l.getD i zIs).2.1) ∧ (flatIs l)[i * 3 + 2]? = some (.int .i64 (l.getD i zIs).2.2) := by
  induction l generalizing i with
  | nil => simp at h
  | cons x r ih =>
    cases i with
    | zero => simp [flatIs]
    | succ i =>
      have := ih i (by simpa using h)
      rw [show (i + 1) * 3 = i * 3 + 1 + 1 + 1 by omega]
      simpa [flatIs, List.getD] using this
theorem flatIs_one (l : List Is) : ∀ u ∈ flatIs l, u.oneCell' = true := by
  induction l with
  | nil => simp [flatIs]
  | cons x r ih =>
    intro u hu
    simp only [flatIs, List.mem_cons] at hu
    rcases hu with rfl | rfl | rfl | hu
    · rfl
    · rfl
    · rfl
    · exact ih u hu
/-- rows that a call has made, their memory from block B on -/
def OwnIs (w : World) (B : Nat) (v : Value) (l : List Is) : Prop := w.ownsRow B 45 3 v l.length (flatIs l)
theorem OwnIs.nil (w : World) (B : Nat) : OwnIs w B (.slice none 0 0) [] := World.ownsRow_nil w B _ _
theorem OwnIs.form {w : World} {B : Nat} {v : Value} {l : List Is} (h : OwnIs w B v l) : (v = .slice none 0 0 ∧ l = []) ∨ ∃ g cap, v = .slice (some ⟨g, 0, none⟩) l.length cap ∧ B ≤ g ∧ g < w.heap.size ∧ l.length ≤ cap ∧ cap ≤ maxLen := by
  rcases h.2 with ⟨rfl, h0⟩ | ⟨g, cap, cur, rfl, hb, hg, h1, h2, _⟩
  · exact .inl ⟨rfl, List.length_eq_zero_iff.1 h0⟩
  · exact .inr ⟨g, cap, rfl, hb, (Array.getElem?_eq_some_iff.1 hg).1, h1, h2⟩
theorem OwnIs.rows {w : World} {B : Nat} {v : Value} {l : List Is} (h : OwnIs w B v l) : ∃ a cap, v = .slice a l.length cap ∧ Iss w a l := by
  rcases h.form with ⟨rfl, rfl⟩ | ⟨g, cap, rfl, hb, hg, h1, h2⟩
  · exact ⟨none, 0, rfl, .inl rfl⟩
  · refine ⟨_, cap, rfl, .inr ⟨g, 0, rfl, fun i hi => ?_⟩⟩
    obtain ⟨f1, f2, f3⟩ := flatIs_at l i hi
    have c1 := World.ownsRow.cellAt h (i * 3) (by omega)
    have c2 := World.ownsRow.cellAt h (i * 3 + 1) (by omega)
    have c3 := World.ownsRow.cellAt h (i * 3 + 2) (by omega)
    rw [Nat.zero_add]
    exact ⟨by rw [c1, f1], by rw [c2, f2], by rw [c3, f3]⟩
theorem OwnIs.slice {w : World} {B : Nat} {v : Value} {l : List Is} (h : OwnIs w B v l) : ∃ a n c, v = .slice a n c := by
  rcases h.form with ⟨rfl, _⟩ | ⟨g, cap, rfl, _⟩
  · exact ⟨_, _, _, rfl⟩
  · exact ⟨_, _, _, rfl⟩
theorem OwnIs.below {w w' : World} {B C : Nat} {v : Value} {l : List Is} (h : OwnIs w B v l) (hb : Below C w w') (hC : w.heap.size ≤ C) : OwnIs w' B v l :=
  World.ownsRow.kept h (grown_of_below hb hC none) (by cases v.ownBlock <;> simp)
theorem OwnIs.base {w : World} {B C : Nat} {v : Value} {l : List Is} (h : OwnIs w B v l) (hC : C ≤ B) : OwnIs w C v l := by
  refine ⟨h.1, ?_⟩
  rcases h.2 with h0 | ⟨g, cap, cur, h1, h2, h3⟩
  · exact .inl h0
  · exact .inr ⟨g, cap, cur, h1, by omega, h3⟩
theorem Iss.add {w : World} {p : Addr} {l : List Is} (h : Iss w (some p) l) : ∀ j u, (flatIs l)[j]? = some u → w.cell? (p.add j) = some u := by
  intro j u hj
  have hlt : j < l.length * 3 := by
    have := (List.getElem?_eq_some_iff.1 hj).1
    rwa [flatIs_length] at this
  obtain ⟨b, off, e, _, c1, c2, c3⟩ := h.at (j / 3) (by omega)
  simp only [Option.some.injEq] at e
  subst e
  have ha : (⟨b, off, none⟩ : Addr).add j = ⟨b, off + j, none⟩ := by
    by_cases h0 : j = 0 <;> simp [Addr.add, h0]
  rw [ha]
  obtain ⟨f1, f2, f3⟩ := flatIs_at l (j / 3) (by omega)
  have hc : j % 3 = 0 ∨ j % 3 = 1 ∨ j % 3 = 2 := by omega
  rcases hc with hc | hc | hc
  · have e : j = j / 3 * 3 := by omega
    rw [e] at hj ⊢
    rw [f1] at hj; rw [c1]; exact hj
  · have e : j = j / 3 * 3 + 1 := by omega
    rw [e] at hj ⊢
    rw [f2] at hj; rw [← Nat.add_assoc, c2]; exact hj
  · have e : j = j / 3 * 3 + 2 := by omega
    rw [e] at hj ⊢
    rw [f3] at hj; rw [← Nat.add_assoc, c3]; exact hj
theorem eqNilIs (w : World) (a : Option Addr) (n c n' c' : Nat) : (binOp .eql 22 (.slice a n c) (.slice none n' c')).run Try.prog w = .ok (.bool a.isNone) w := Lib.run_eql_slice_nil w _ _ a n c n' c' Try.underlying22
set_option maxRecDepth 20000 in
theorem cloneIs_some (p : Addr) (cap : Nat) (l : List Is) (w : World) (h : Iss w (some p) l) (hm : l.length ≤ maxLen) (hl : l.length * 24 ≤ 140737488355328) :
    Calls Try.prog 21 #[.slice (some p) l.length cap] w fun e w' => (∃ v, e = .returned v ∧ OwnIs w' w.heap.size v l) ∧ Below w.heap.size w w' := by
  obtain ⟨i0, hi, hz0, hz1, hz2⟩ := info_parts infoIs
  have Hi := hid hi
  have Hz0 := hid hz0
  have Hz1 := hid hz1
  have Hz2 := hid hz2
  clear hi hz0 hz1 hz2
  have q := eqNilIs
  have HA := hid h
  have HM := hid hm
  have HL := hid hl
  clear h hm hl
  go_enter Try.func21, Try.ntmps21
  go_wp2_with (at_builtin; refine wpList_append_own _ rfl _ _ 22 rfl w.heap.size 45 i0 (.agg #[.int .i64 0, .int .i64 0, .int .i64 0]) 3 24 Try.underlying22 Hi.out Hz0.out Hz1.out Hz2.out rfl (by decide) _ _ _ rfl (World.ownsRow_made w #[] 0 (Nat.le_refl _) (Nat.zero_le _) rfl) p l.length cap (flatIs l) rfl ?qc1 ?qc2 ?qc3 ?qc4 ?qc5 ?qc6 ?_)
  case qc1 => exact flatIs_length l
  case qc2 => exact (HA.out.below (Below.alloc (Below.refl _ _) (Nat.le_refl _) _) (Nat.le_refl _)).add
  case qc3 => exact flatIs_one l
  case qc4 => have := HM.out; omega
  case qc5 => have := HL.out; omega
  case qc6 => simp
  intro v' w1 hown hgrow hnil
  have HO : Hid (OwnIs w1 w.heap.size v' l) := by
    show w1.ownsRow _ _ _ _ _ _
    simpa using hown
  have HB := hid (Below.grown (Below.alloc (Below.refl _ w) (Nat.le_refl _) _) hgrow (by simp) (by intro k hk; simp [Value.ownBlock] at hk; omega))
  obtain ⟨a, n, c, rfl⟩ := OwnIs.slice (show OwnIs _ _ _ _ from HO.out)
  clear hown hgrow hnil
  go_wp2
  go_ret
  exact ⟨⟨_, rfl, HO.out⟩, HB.out⟩
theorem cloneIs_any (a : Option Addr) (cap : Nat) (l : List Is) (w : World) (h : Iss w a l) (nz : a = none → cap = 0) (hm : l.length ≤ maxLen) (hl : l.length * 24 ≤ 140737488355328) :
    Calls Try.prog 21 #[.slice a l.length cap] w fun e w' => (∃ v, e = .returned v ∧ OwnIs w' w.heap.size v l) ∧ Below w.heap.size w w' := by
  cases a with
  | none =>
    obtain rfl := nz rfl
    obtain rfl : l = [] := by
      rcases h with h | ⟨b, off, h, _⟩
      · exact h
      · simp at h
    have q := eqNilIs
    clear h nz hl hm
    go_enter Try.func21, Try.ntmps21
    go_wp2
    go_ret
    exact ⟨⟨_, rfl, OwnIs.nil _ _⟩, Below.refl _ _⟩
  | some p => exact cloneIs_some p cap l w h hm hl
/-- 'append(v, m...)' -/
theorem wpList_appendIs {ops : Array Oper} {rest : List Oper} {o : Oper} {a : Act} {Q : Exit → Act → World → Prop} {w : World} (hgd : o.guard = none) (s x : Operand)
    (ho : o.op = .call { callee := .builtin .append, args := #[s, x], argTypes := #[22, 22] })
    (B : Nat) (v : Value) (l m : List Is) (sa : Option Addr) (len cap : Nat) (hs : a.eval s = v) (hown : OwnIs w B v l) (hx : a.eval x = .slice sa len cap) (hlen : len = m.length) (hm : Iss w sa m) (hz : sa = none → len = 0 ∧ cap = 0)
    (h63 : l.length + m.length ≤ maxLen) (hbytes : (l.length + m.length) * 24 ≤ 140737488355328) (hB : B ≤ w.heap.size)
    (h : ∀ v' w', OwnIs w' B v' (l ++ m) → w.grownBy w' v.ownBlock → wpList Try.prog ops Q rest (a.put o.dst v') w') : wpList Try.prog ops Q (o :: rest) a w := by
  obtain ⟨i0, hi, hz0, hz1, hz2⟩ := info_parts infoIs
  cases sa with
  | none =>
    obtain ⟨e1, rfl⟩ := hz rfl
    obtain rfl : m = [] := List.length_eq_zero_iff.1 (by omega)
    rw [e1] at hx
    refine wpList_append_own_none hgd s x 22 ho B 45 i0 3 Try.underlying22 hi v l.length (flatIs l) hs hown hx (h v w (by simpa using hown) ⟨rfl, rfl, rfl, Nat.le_refl _, fun _ _ _ => rfl⟩)
  | some p =>
    subst hlen
    refine wpList_append_own _ hgd s x 22 ho B 45 i0 (.agg #[.int .i64 0, .int .i64 0, .int .i64 0]) 3 24 Try.underlying22 hi hz0 hz1 hz2 rfl (by decide) v l.length (flatIs l) hs hown p m.length cap (flatIs m) hx (flatIs_length m) hm.add (flatIs_one m) h63 hbytes hB ?_
    intro v' w' h1 h2 _
    refine h v' w' ?_ h2
    unfold OwnIs
    rw [flatIs_append, List.length_append]
    exact h1
/-- what lies there, and lies no more where it lay: all cells of one row anew -/
theorem OwnIs.holdsAt {w : World} {B g cap : Nat} {l : List Is} (h : OwnIs w B (.slice (some ⟨g, 0, none⟩) l.length cap) l) (j : Nat) (hj : j < l.length * 3) : w.cell? ⟨g, j, none⟩ = (flatIs l)[j]? ∧ w.frozen? ⟨g, j, none⟩ = false :=
  ⟨World.ownsRow.cellAt h j hj, World.ownsRow.frozenAt h j⟩
end RowsO
end Go.Proofs.Ytceflfdpbgnfjaa
