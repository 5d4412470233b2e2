/- Rows of api.Task that a call makes: slices.Clone (gen_rows.py writes this text). -/
import Derived.Test.YtnbfadfhpegddaaOpenTk
import Derived.Test.YtnbfadfhpegddaaSpanW
import Derived.Lib.OwnBridge
set_option linter.unusedVariables false
namespace Go.Proofs.Ytnbfadfhpegddaa
open Go.RowKit
open SpanM SpanC
namespace RowsO
theorem infoTk : (Try.prog.info? 38).map (fun i => (i.zero, i.size, i.bytes)) = some (some (.agg #[.int .i64 0, .int .i64 0, .int .i64 0]), 3, 24) := by kernel_rfl
def encTk (x : Tk) : List Value := [.int .i64 x.1, .int .i64 x.2.1, .int .i64 x.2.2]
/-- rows as cells -/
def flatTk : List Tk → List Value
  | [] => []
  | x :: r => .int .i64 x.1 :: .int .i64 x.2.1 :: .int .i64 x.2.2 :: flatTk r
theorem flatTk_length (l : List Tk) : (flatTk l).length = l.length * 3 := by
  induction l with
  | nil => rfl
  | cons x r ih => simp only [flatTk, List.length_cons, ih]; omega
theorem flatTk_append (l r : List Tk) : flatTk (l ++ r) = flatTk l ++ flatTk r := by
  induction l with
  | nil => rfl
  | cons x s ih => simp [flatTk, ih]
theorem flatTk_at (l : List Tk) (i : Nat) (h : i < l.length) : (flatTk l)[i * 3]? = some (.int .i64 (l.getD i zTk).1) ∧ (flatTk l)[i * 3 + 1]? = some (.int .i64 (l.getD i zTk).2.1) ∧ (flatTk l)[i * 3 + 2]? = some (.int .i64 (l.getD i zTk).2.2) := by
  induction l generalizing i with
  | nil => simp at h
  | cons x r ih =>
    cases i with
    | zero => simp [flatTk]
    | succ i =>
      have := ih i (by simpa using h)
      rw [show (i + 1) * 3 = i * 3 + 1 + 1 + 1 by omega]
      simpa [flatTk, List.getD] using this
theorem flatTk_one (l : List Tk) : ∀ u ∈ flatTk l, u.oneCell' = true := by
  induction l with
  | nil => simp [flatTk]
  | cons x r ih =>
    intro u hu
    simp only [flatTk, List.mem_cons] at hu
    rcases hu with rfl | rfl | rfl | hu
    · rfl
    · rfl
    · rfl
    · exact ih u hu
/-- rows that a call has made, their memory from block B on -/
def OwnTk (w : World) (B : Nat) (v : Value) (l : List Tk) : Prop := w.ownsRow B 38 3 v l.length (flatTk l)
theorem OwnTk.nil (w : World) (B : Nat) : OwnTk w B (.slice none 0 0) [] := World.ownsRow_nil w B _ _
theorem OwnTk.form {w : World} {B : Nat} {v : Value} {l : List Tk} (h : OwnTk w B v l) : (v = .slice none 0 0 ∧ l = []) ∨ ∃ g cap, v = .slice (some ⟨g, 0, none⟩) l.length cap ∧ B ≤ g ∧ g < w.heap.size ∧ l.length ≤ cap ∧ cap ≤ maxLen := by
  rcases h.2 with ⟨rfl, h0⟩ | ⟨g, cap, cur, rfl, hb, hg, h1, h2, _⟩
  · exact .inl ⟨rfl, List.length_eq_zero_iff.1 h0⟩
  · exact .inr ⟨g, cap, rfl, hb, (Array.getElem?_eq_some_iff.1 hg).1, h1, h2⟩
theorem OwnTk.rows {w : World} {B : Nat} {v : Value} {l : List Tk} (h : OwnTk w B v l) : ∃ a cap, v = .slice a l.length cap ∧ Tks w a l := by
  rcases h.form with ⟨rfl, rfl⟩ | ⟨g, cap, rfl, hb, hg, h1, h2⟩
  · exact ⟨none, 0, rfl, .inl rfl⟩
  · refine ⟨_, cap, rfl, .inr ⟨g, 0, rfl, fun i hi => ?_⟩⟩
    obtain ⟨f1, f2, f3⟩ := flatTk_at l i hi
    have c1 := World.ownsRow.cellAt h (i * 3) (by omega)
    have c2 := World.ownsRow.cellAt h (i * 3 + 1) (by omega)
    have c3 := World.ownsRow.cellAt h (i * 3 + 2) (by omega)
    rw [Nat.zero_add]
    exact ⟨by rw [c1, f1], by rw [c2, f2], by rw [c3, f3]⟩
theorem OwnTk.slice {w : World} {B : Nat} {v : Value} {l : List Tk} (h : OwnTk w B v l) : ∃ a n c, v = .slice a n c := by
  rcases h.form with ⟨rfl, _⟩ | ⟨g, cap, rfl, _⟩
  · exact ⟨_, _, _, rfl⟩
  · exact ⟨_, _, _, rfl⟩
theorem OwnTk.below {w w' : World} {B C : Nat} {v : Value} {l : List Tk} (h : OwnTk w B v l) (hb : Below C w w') (hC : w.heap.size ≤ C) : OwnTk w' B v l :=
  World.ownsRow.kept h (grown_of_below hb hC none) (by cases v.ownBlock <;> simp)
theorem OwnTk.base {w : World} {B C : Nat} {v : Value} {l : List Tk} (h : OwnTk w B v l) (hC : C ≤ B) : OwnTk w C v l := by
  refine ⟨h.1, ?_⟩
  rcases h.2 with h0 | ⟨g, cap, cur, h1, h2, h3⟩
  · exact .inl h0
  · exact .inr ⟨g, cap, cur, h1, by omega, h3⟩
theorem Tks.add {w : World} {p : Addr} {l : List Tk} (h : Tks w (some p) l) : ∀ j u, (flatTk l)[j]? = some u → w.cell? (p.add j) = some u := by
  intro j u hj
  have hlt : j < l.length * 3 := by
    have := (List.getElem?_eq_some_iff.1 hj).1
    rwa [flatTk_length] at this
  obtain ⟨b, off, e, _, c1, c2, c3⟩ := h.at (j / 3) (by omega)
  simp only [Option.some.injEq] at e
  subst e
  have ha : (⟨b, off, none⟩ : Addr).add j = ⟨b, off + j, none⟩ := by
    by_cases h0 : j = 0 <;> simp [Addr.add, h0]
  rw [ha]
  obtain ⟨f1, f2, f3⟩ := flatTk_at l (j / 3) (by omega)
  have hc : j % 3 = 0 ∨ j % 3 = 1 ∨ j % 3 = 2 := by omega
  rcases hc with hc | hc | hc
  · have e : j = j / 3 * 3 := by omega
    rw [e] at hj ⊢
    rw [f1] at hj; rw [c1]; exact hj
  · have e : j = j / 3 * 3 + 1 := by omega
    rw [e] at hj ⊢
    rw [f2] at hj; rw [← Nat.add_assoc, c2]; exact hj
  · have e : j = j / 3 * 3 + 2 := by omega
    rw [e] at hj ⊢
    rw [f3] at hj; rw [← Nat.add_assoc, c3]; exact hj
theorem eqNilTk (w : World) (a : Option Addr) (n c n' c' : Nat) : (binOp .eql 22 (.slice a n c) (.slice none n' c')).run Try.prog w = .ok (.bool a.isNone) w := Lib.run_eql_slice_nil w _ _ a n c n' c' Try.underlying22
set_option maxRecDepth 20000 in
theorem cloneTk_some (p : Addr) (cap : Nat) (l : List Tk) (w : World) (h : Tks w (some p) l) (hm : l.length ≤ maxLen) (hl : l.length * 24 ≤ 140737488355328) :
    Calls Try.prog 26 #[.slice (some p) l.length cap] w fun e w' => (∃ v, e = .returned v ∧ OwnTk w' w.heap.size v l) ∧ Below w.heap.size w w' := by
  obtain ⟨i0, hi, hz0, hz1, hz2⟩ := info_parts infoTk
  have Hi := hid hi
  have Hz0 := hid hz0
  have Hz1 := hid hz1
  have Hz2 := hid hz2
  clear hi hz0 hz1 hz2
  have q := eqNilTk
  have HA := hid h
  have HM := hid hm
  have HL := hid hl
  clear h hm hl
  go_enter Try.func26, Try.ntmps26
  go_wp2_with (at_builtin; refine wpList_append_own _ rfl _ _ 22 rfl w.heap.size 38 i0 (.agg #[.int .i64 0, .int .i64 0, .int .i64 0]) 3 24 Try.underlying22 Hi.out Hz0.out Hz1.out Hz2.out rfl (by decide) _ _ _ rfl (World.ownsRow_made w #[] 0 (Nat.le_refl _) (Nat.zero_le _) rfl) p l.length cap (flatTk l) rfl ?qc1 ?qc2 ?qc3 ?qc4 ?qc5 ?qc6 ?_)
  case qc1 => exact flatTk_length l
  case qc2 => exact (HA.out.below (Below.alloc (Below.refl _ _) (Nat.le_refl _) _) (Nat.le_refl _)).add
  case qc3 => exact flatTk_one l
  case qc4 => have := HM.out; omega
  case qc5 => have := HL.out; omega
  case qc6 => simp
  intro v' w1 hown hgrow hnil
  have HO : Hid (OwnTk w1 w.heap.size v' l) := by
    show w1.ownsRow _ _ _ _ _ _
    simpa using hown
  have HB := hid (Below.grown (Below.alloc (Below.refl _ w) (Nat.le_refl _) _) hgrow (by simp) (by intro k hk; simp [Value.ownBlock] at hk; omega))
  obtain ⟨a, n, c, rfl⟩ := OwnTk.slice (show OwnTk _ _ _ _ from HO.out)
  clear hown hgrow hnil
  go_wp2
  go_ret
  exact ⟨⟨_, rfl, HO.out⟩, HB.out⟩
theorem cloneTk_any (a : Option Addr) (cap : Nat) (l : List Tk) (w : World) (h : Tks w a l) (nz : a = none → cap = 0) (hm : l.length ≤ maxLen) (hl : l.length * 24 ≤ 140737488355328) :
    Calls Try.prog 26 #[.slice a l.length cap] w fun e w' => (∃ v, e = .returned v ∧ OwnTk w' w.heap.size v l) ∧ Below w.heap.size w w' := by
  cases a with
  | none =>
    obtain rfl := nz rfl
    obtain rfl : l = [] := by
      rcases h with h | ⟨b, off, h, _⟩
      · exact h
      · simp at h
    have q := eqNilTk
    clear h nz hl hm
    go_enter Try.func26, Try.ntmps26
    go_wp2
    go_ret
    exact ⟨⟨_, rfl, OwnTk.nil _ _⟩, Below.refl _ _⟩
  | some p => exact cloneTk_some p cap l w h hm hl
/-- 'append(v, m...)' -/
theorem wpList_appendTk {ops : Array Oper} {rest : List Oper} {o : Oper} {a : Act} {Q : Exit → Act → World → Prop} {w : World} (hgd : o.guard = none) (s x : Operand)
    (ho : o.op = .call { callee := .builtin .append, args := #[s, x], argTypes := #[22, 22] })
    (B : Nat) (v : Value) (l m : List Tk) (sa : Option Addr) (len cap : Nat) (hs : a.eval s = v) (hown : OwnTk w B v l) (hx : a.eval x = .slice sa len cap) (hlen : len = m.length) (hm : Tks w sa m) (hz : sa = none → len = 0 ∧ cap = 0)
    (h63 : l.length + m.length ≤ maxLen) (hbytes : (l.length + m.length) * 24 ≤ 140737488355328) (hB : B ≤ w.heap.size)
    (h : ∀ v' w', OwnTk w' B v' (l ++ m) → w.grownBy w' v.ownBlock → wpList Try.prog ops Q rest (a.put o.dst v') w') : wpList Try.prog ops Q (o :: rest) a w := by
  obtain ⟨i0, hi, hz0, hz1, hz2⟩ := info_parts infoTk
  cases sa with
  | none =>
    obtain ⟨e1, rfl⟩ := hz rfl
    obtain rfl : m = [] := List.length_eq_zero_iff.1 (by omega)
    rw [e1] at hx
    refine wpList_append_own_none hgd s x 22 ho B 38 i0 3 Try.underlying22 hi v l.length (flatTk l) hs hown hx (h v w (by simpa using hown) ⟨rfl, rfl, rfl, Nat.le_refl _, fun _ _ _ => rfl⟩)
  | some p =>
    subst hlen
    refine wpList_append_own _ hgd s x 22 ho B 38 i0 (.agg #[.int .i64 0, .int .i64 0, .int .i64 0]) 3 24 Try.underlying22 hi hz0 hz1 hz2 rfl (by decide) v l.length (flatTk l) hs hown p m.length cap (flatTk m) hx (flatTk_length m) hm.add (flatTk_one m) h63 hbytes hB ?_
    intro v' w' h1 h2 _
    refine h v' w' ?_ h2
    unfold OwnTk
    rw [flatTk_append, List.length_append]
    exact h1
/-- what lies there, and lies no more where it lay: all cells of one row anew -/
theorem OwnTk.holdsAt {w : World} {B g cap : Nat} {l : List Tk} (h : OwnTk w B (.slice (some ⟨g, 0, none⟩) l.length cap) l) (j : Nat) (hj : j < l.length * 3) : w.cell? ⟨g, j, none⟩ = (flatTk l)[j]? ∧ w.frozen? ⟨g, j, none⟩ = false :=
  ⟨World.ownsRow.cellAt h j hj, World.ownsRow.frozenAt h j⟩
end RowsO
end Go.Proofs.Ytnbfadfhpegddaa
