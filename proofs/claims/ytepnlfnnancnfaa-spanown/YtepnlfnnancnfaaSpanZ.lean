/- slices.Clone and slices.Reverse at spans; what Of tells. -/
import Derived.Test.YtepnlfnnancnfaaSpanK
set_option linter.unusedVariables false
namespace Go.Proofs.Ytepnlfnnancnfaa
open Go.RowKit Go.Shelf Go.Sort
open SpanM
namespace SpanC
theorem of_says {W : World} {size : Int} {a : Option Addr} {c : Nat} {l : List Sp} (h : Sps W a l) : Says 31 #[.int .i64 size, .slice a l.length c] W (Ans size (ofE size l = 0) (mem l)) := by
  by_cases h1 : 1 ≤ size ∧ size ≤ 1000000
  · by_cases h2 : 200 < l.length
    · have e : ofE size l = 2 := by unfold ofE; rw [if_pos h1, if_pos h2]
      exact says_err (E := 2) (by decide) (by rw [e]; decide) (of_large size a _ c W h1.1 h1.2 h2)
    · have e : ofE size l = ofG size l := by unfold ofE; rw [if_pos h1, if_neg h2]
      refine (of_list size a c l W h1.1 h1.2 h2 h).mono ?_
      rintro e' w' ⟨h3 | h3, hb⟩
      · obtain ⟨h4, v, r, rfl, ho, hg, hm, hl⟩ := h3
        obtain ⟨a', c', rfl, hs, hn, hml⟩ := ho.full
        exact ⟨⟨size, a', c', r, 0, rfl, hs, hn, hml, .inl ⟨rfl, rfl, by rw [e, h4], chk_of h1.1 h1.2 hl hg, hm⟩⟩, hb⟩
      · obtain ⟨h4, rfl⟩ := h3
        exact ⟨⟨0, none, 0, [], 4, rfl, .inl rfl, fun _ => rfl, by simp, .inr ⟨by decide, rfl, rfl, fun hk => absurd hk (by rw [e, h4]; decide)⟩⟩, hb⟩
  · have e : ofE size l = 1 := by unfold ofE; rw [if_neg h1]
    exact says_err (E := 1) (by decide) (by rw [e]; decide) (of_arg size a _ c W h1)
/-- what Of tells, to the number -/
def OfAns (size : Int) (l : List Sp) (s : Int) (r : List Sp) (e : Int) : Prop :=
  (ofE size l = 0 ∧ e = 0 ∧ s = size ∧ chk size r = 0 ∧ ∀ t, mem r t = mem l t) ∨ (ofE size l ≠ 0 ∧ e = ofE size l ∧ s = 0 ∧ r = [])
theorem OfAns.is {size : Int} {l : List Sp} {s : Int} {r : List Sp} {e : Int} (h : OfAns size l s r e) (hk : ofE size l = 0) {r0 : List Sp} (hc : chk size r0 = 0) (hm : ∀ t, mem r0 t = mem l t) : e = 0 ∧ s = size ∧ r = r0 := by
  rcases h with ⟨_, h1, h2, h3, h4⟩ | ⟨h, _⟩
  · exact ⟨h1, h2, unique (chk_zero h3).2.2.2 (chk_zero hc).2.2.2 fun t => (h4 t).trans (hm t).symm⟩
  · exact absurd hk h
theorem of_tells {W : World} {size : Int} {a : Option Addr} {c : Nat} {l : List Sp} (h : Sps W a l) : Says 31 #[.int .i64 size, .slice a l.length c] W (OfAns size l) := by
  by_cases h1 : 1 ≤ size ∧ size ≤ 1000000
  · by_cases h2 : 200 < l.length
    · have e : ofE size l = 2 := by unfold ofE; rw [if_pos h1, if_pos h2]
      refine (of_large size a _ c W h1.1 h1.2 h2).mono ?_
      rintro e' w' ⟨rfl, hb⟩
      exact ⟨⟨0, none, 0, [], 2, rfl, .inl rfl, fun _ => rfl, by simp, .inr ⟨by rw [e]; decide, e.symm, rfl, rfl⟩⟩, hb⟩
    · have e : ofE size l = ofG size l := by unfold ofE; rw [if_pos h1, if_neg h2]
      refine (of_list size a c l W h1.1 h1.2 h2 h).mono ?_
      rintro e' w' ⟨h3 | h3, hb⟩
      · obtain ⟨h4, v, r, rfl, ho, hg, hm, hl⟩ := h3
        obtain ⟨a', c', rfl, hs, hn, hml⟩ := ho.full
        exact ⟨⟨size, a', c', r, 0, rfl, hs, hn, hml, .inl ⟨by rw [e, h4], rfl, rfl, chk_of h1.1 h1.2 hl hg, hm⟩⟩, hb⟩
      · obtain ⟨h4, rfl⟩ := h3
        exact ⟨⟨0, none, 0, [], 4, rfl, .inl rfl, fun _ => rfl, by simp, .inr ⟨by rw [e, h4]; decide, by rw [e, h4], rfl, rfl⟩⟩, hb⟩
  · have e : ofE size l = 1 := by unfold ofE; rw [if_neg h1]
    refine (of_arg size a _ c W h1).mono ?_
    rintro e' w' ⟨rfl, hb⟩
    exact ⟨⟨0, none, 0, [], 1, rfl, .inl rfl, fun _ => rfl, by simp, .inr ⟨by rw [e]; decide, e.symm, rfl, rfl⟩⟩, hb⟩
theorem ofE_of {size : Int} {l : List Sp} (h1 : 1 ≤ size) (h2 : size ≤ 1000000) (h3 : l.length ≤ 200) (h4 : ∀ x ∈ l, 0 ≤ x.1 ∧ x.1 ≤ x.2 ∧ x.2 ≤ size) : ofE size l = 0 := by
  unfold ofE ofG
  rw [if_pos ⟨h1, h2⟩, if_neg (by omega), if_pos]
  exact List.all_eq_true.2 fun x hx => (fit_iff size x).2 (h4 x hx)
theorem eqNil (w : World) (a : Option Addr) (n c n' c' : Nat) : (binOp .eql 22 (.slice a n c) (.slice none n' c')).run Try.prog w = .ok (.bool a.isNone) w := Lib.run_eql_slice_nil w _ _ a n c n' c' Try.underlying22
theorem clone_nil (w : World) :
    Calls Try.prog 28 #[.slice none 0 0] w fun e w' => e = .returned (.slice none 0 0) ∧ w' = w := by
  have q := eqNil
  go_enter Try.func28, Try.ntmps28
  go_wp2
  go_ret
  exact ⟨rfl, rfl⟩
set_option maxRecDepth 20000 in
theorem clone_some (p : Addr) (cap : Nat) (l : List Sp) (w : World) (h : Sps w (some p) l) (hl : l.length * 16 ≤ 140737488355328) :
    Calls Try.prog 28 #[.slice (some p) l.length cap] w fun e w' => (∃ v, e = .returned v ∧ Own w' w.heap.size v l) ∧ Below w.heap.size w w' := by
  obtain ⟨i0, hi, hz0, hz1, hz2⟩ := info_parts infoSp
  have Hi := hid hi
  have Hz0 := hid hz0
  have Hz1 := hid hz1
  have Hz2 := hid hz2
  clear hi hz0 hz1 hz2
  have q := eqNil
  have HA := hid h
  clear h
  go_enter Try.func28, Try.ntmps28
  go_wp2_with (at_builtin; refine wpList_append_own _ rfl _ _ 22 rfl w.heap.size 45 i0 (.agg #[.int .i64 0, .int .i64 0]) 2 16 Try.underlying22 Hi.out Hz0.out Hz1.out Hz2.out rfl (by decide) _ _ _ rfl (World.ownsRow_made w #[] 0 (Nat.le_refl _) (Nat.zero_le _) rfl) p l.length cap (flat l) rfl ?qc1 ?qc2 ?qc3 ?qc4 ?qc5 ?qc6 ?_)
  case qc1 => exact flat_length l
  case qc2 => exact sps_add (HA.out.below (Below.alloc (Below.refl _ _) (Nat.le_refl _) _) (Nat.le_refl _))
  case qc3 => exact flat_one l
  case qc4 => unfold maxLen; omega
  case qc5 => omega
  case qc6 => simp
  intro v' w1 hown hgrow hnil
  have HO : Hid (Own w1 w.heap.size v' l) := by
    show w1.ownsRow _ _ _ _ _ _
    simpa using hown
  have HB := hid (Below.grown (Below.alloc (Below.refl _ w) (Nat.le_refl _) _) hgrow (by simp) (by intro k hk; simp [Value.ownBlock] at hk; omega))
  obtain ⟨a, n, c, rfl⟩ := HO.out.slice
  clear hown hgrow hnil
  go_wp2
  go_ret
  exact ⟨⟨_, rfl, HO.out⟩, HB.out⟩
theorem clone_any (a : Option Addr) (cap : Nat) (l : List Sp) (w : World) (h : Sps w a l) (nz : a = none → cap = 0) (hl : l.length * 16 ≤ 140737488355328) :
    Calls Try.prog 28 #[.slice a l.length cap] w fun e w' => (∃ v, e = .returned v ∧ Own w' w.heap.size v l) ∧ Below w.heap.size w w' := by
  cases a with
  | none =>
    obtain rfl := nz rfl
    obtain rfl : l = [] := by
      rcases h with h | ⟨b, off, h, _⟩
      · exact h
      · simp at h
    exact (clone_nil w).mono fun e w' ⟨he, hw⟩ => ⟨⟨_, he, Own.nil _ _⟩, by rw [hw]; exact Below.refl _ _⟩
  | some p => exact clone_some p cap l w h hl
theorem flat_set_at (p q : List Sp) (x : Sp) (t : Int) : (flat (p ++ x :: q)).set (p.length * 2 + 1) (.int .i64 t) = flat (p ++ (x.1, t) :: q) := by
  rw [flat_append, flat_append, List.set_append_right _ _ (by rw [flat_length]; omega), flat_length]
  rw [show p.length * 2 + 1 - p.length * 2 = 1 by omega]
  rfl
theorem Own.setAt {w : World} {B g n cap : Nat} {p q : List Sp} {x : Sp} (t : Int) (hn : n = (p ++ x :: q).length) (h : Own w B (.slice (some ⟨g, 0, none⟩) n cap) (p ++ x :: q)) :
    Own (w.setCell ⟨g, p.length * 2 + 1, none⟩ (.int .i64 t)) B (.slice (some ⟨g, 0, none⟩) n cap) (p ++ (x.1, t) :: q) := by
  subst hn
  have := (World.ownsRow.stored h (p.length * 2 + 1) (.int .i64 t)).1
  rw [flat_set_at] at this
  have e : (p ++ (x.1, t) :: q).length = (p ++ x :: q).length := by simp
  unfold Own
  rw [e]
  exact this
theorem mem_reverse (l : List Sp) (t : Int) : mem l.reverse t = mem l t := mem_perm (fun x => List.mem_reverse) t
theorem mem_cut (p q : List Sp) (x : Sp) (c t : Int) (h1 : x.1 ≤ c) (h2 : c ≤ x.2) : mem (p ++ (x.1, c) :: q ++ [(c, x.2)]) t = mem (p ++ x :: q) t := by
  rw [mem_append, mem_append, mem_append, mem_cons, mem_cons, mem_cons]
  have : decide (x.1 ≤ t ∧ t < x.2) = (decide (x.1 ≤ t ∧ t < c) || decide (c ≤ t ∧ t < x.2)) := by
    rw [Bool.eq_iff_iff]; simp only [Bool.or_eq_true, decide_eq_true_eq]; omega
  rw [this]
  simp only [mem_nil, Bool.or_false]
  cases mem p t <;> cases mem q t <;> cases decide (x.1 ≤ t ∧ t < c) <;> simp
end SpanC
end Go.Proofs.Ytepnlfnnancnfaa
