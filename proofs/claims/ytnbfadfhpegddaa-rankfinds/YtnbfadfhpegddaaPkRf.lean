/- Several texts, one behind the other: SpanQ SupR SupN SupN2. -/
import Derived.Test.YtnbfadfhpegddaaSpanM
import Derived.Lib.SlicesCompact
import Derived.Test.YtnbfadfhpegddaaSupA
import Derived.Shelf.Abstract
/- Plain mathematics of edges: sorted and without doubles; a set by its edges. -/
set_option linter.unusedVariables false
namespace Go.Proofs.Ytnbfadfhpegddaa
open SpanM
namespace SpanM
/-- the edges of spans -/
def edges : List Sp → List Int
  | [] => []
  | x :: r => x.1 :: x.2 :: edges r
theorem edges_append (l m : List Sp) : edges (l ++ m) = edges l ++ edges m := by
  induction l with
  | nil => rfl
  | cons x r ih => simp [edges, ih]
theorem edges_length (l : List Sp) : (edges l).length = l.length * 2 := by
  induction l with
  | nil => rfl
  | cons x r ih => simp only [edges, List.length_cons, ih]; omega
theorem mem_edges {l : List Sp} {x : Sp} (h : x ∈ l) : x.1 ∈ edges l ∧ x.2 ∈ edges l := by
  induction l with
  | nil => simp at h
  | cons y r ih =>
    rcases List.mem_cons.1 h with rfl | h
    · simp [edges]
    · have := ih h; simp [edges, this]
/-- between edges nothing changes -/
theorem mem_same {l : List Sp} {c u : Int} (hcu : c ≤ u) (h : ∀ y ∈ edges l, y ≤ c ∨ u < y) : mem l u = mem l c := by
  rw [Bool.eq_iff_iff, mem_iff, mem_iff]
  constructor
  · rintro ⟨x, hx, h1, h2⟩
    have a := h x.1 (mem_edges hx).1
    exact ⟨x, hx, by omega, by omega⟩
  · rintro ⟨x, hx, h1, h2⟩
    have a := h x.2 (mem_edges hx).2
    exact ⟨x, hx, by omega, by omega⟩

/-- what a list of edges is, sorted and without doubles -/
def tidy (zs : List Int) : List Int := Lib.compact (zs.mergeSort fun x y => decide (x ≤ y))
theorem sorted_le (zs : List Int) (i j : Nat) (hij : i ≤ j) (hj : j < (zs.mergeSort fun x y => decide (x ≤ y)).length) : (zs.mergeSort fun x y => decide (x ≤ y)).toArray[i]! ≤ (zs.mergeSort fun x y => decide (x ≤ y)).toArray[j]! := by
  have hp := List.pairwise_mergeSort (le := fun x y : Int => decide (x ≤ y)) (fun a b c h1 h2 => by simp at *; omega) (fun a b => by simp; omega) zs
  generalize zs.mergeSort (fun x y => decide (x ≤ y)) = s at *
  rcases Nat.eq_or_lt_of_le hij with rfl | hlt
  · exact Int.le_refl _
  · have := List.pairwise_iff_getElem.1 hp i j (by omega) hj hlt
    simpa [show i < s.length by omega, hj] using this
theorem keeps_iff (d : Array Int) (j : Nat) : Lib.keeps d j = true ↔ (j = 0 ∨ d[j]! ≠ d[j - 1]!) := by
  unfold Lib.keeps
  simp
theorem tidy_mem (zs : List Int) (x : Int) : x ∈ tidy zs ↔ x ∈ zs := by
  unfold tidy Lib.compact Lib.compactUpTo
  have hm : ∀ y, y ∈ zs.mergeSort (fun x y => decide (x ≤ y)) ↔ y ∈ zs := fun y => List.mem_mergeSort
  rw [← hm x]
  generalize zs.mergeSort (fun x y => decide (x ≤ y)) = s at *
  constructor
  · intro h
    obtain ⟨j, hj, rfl⟩ := List.mem_map.1 h
    have hj' := List.mem_range.1 (List.mem_filter.1 hj).1
    have : s.toArray[j]! = s[j] := by simp [hj']
    rw [this]
    exact List.getElem_mem hj'
  · intro h
    obtain ⟨j, hj, rfl⟩ := List.mem_iff_getElem.1 h
    have key : ∀ j, j < s.length → ∃ i, i < s.length ∧ Lib.keeps s.toArray i = true ∧ s.toArray[i]! = s.toArray[j]! := by
      intro j
      induction j with
      | zero => intro h; exact ⟨0, h, (keeps_iff _ _).2 (.inl rfl), rfl⟩
      | succ j ih =>
        intro h
        by_cases hk : Lib.keeps s.toArray (j + 1) = true
        · exact ⟨j + 1, h, hk, rfl⟩
        · have : s.toArray[j + 1]! = s.toArray[j]! := by
            rw [keeps_iff] at hk
            have := not_or.1 hk
            simpa using this.2
          obtain ⟨i, h1, h2, h3⟩ := ih (by omega)
          exact ⟨i, h1, h2, by rw [h3, this]⟩
    obtain ⟨i, h1, h2, h3⟩ := key j hj
    refine List.mem_map.2 ⟨i, List.mem_filter.2 ⟨List.mem_range.2 h1, h2⟩, ?_⟩
    rw [h3]; simp [hj]
theorem tidy_lt (zs : List Int) : (tidy zs).Pairwise (· < ·) := by
  have hs := sorted_le zs
  unfold tidy Lib.compact Lib.compactUpTo
  generalize zs.mergeSort (fun x y => decide (x ≤ y)) = s at *
  rw [List.pairwise_map]
  refine List.Pairwise.imp_of_mem (R := (· < ·)) ?_ (List.Pairwise.filter _ List.pairwise_lt_range)
  intro i j hi hj hij
  have hj1 := List.mem_range.1 (List.mem_filter.1 hj).1
  have hj2 := (keeps_iff _ _).1 (List.mem_filter.1 hj).2
  rcases hj2 with rfl | hj2
  · omega
  · have a := hs i (j - 1) (by omega) (by omega)
    have b := hs (j - 1) j (by omega) hj1
    have c : s.toArray[j - 1]! ≠ s.toArray[j]! := fun e => hj2 e.symm
    omega
theorem tidy_len (zs : List Int) : (tidy zs).length ≤ zs.length := by
  unfold tidy Lib.compact Lib.compactUpTo
  rw [List.length_map]
  refine Nat.le_trans (List.length_filter_le _ _) ?_
  rw [List.length_range, List.length_mergeSort]
  exact Nat.le_refl _

/-- what is known of edges, and of what is asked of times -/
structure Edg (size : Int) (p : Int → Bool) (E : List Int) : Prop where
  asc : E.Pairwise (· < ·)
  zero : (0 : Int) ∈ E
  last : size ∈ E
  pos : 1 ≤ size
  same : ∀ c u, 0 ≤ c → c ≤ u → u < size → (∀ y ∈ E, y ≤ c ∨ u < y) → p u = p c
/-- what is told so far, behind k edges -/
def Sinv (size : Int) (p : Int → Bool) (E : List Int) (k : Nat) (acc : List Sp) (on : Bool) : Prop :=
  (acc = [] ∧ on = false ∧ ∀ y ∈ E.take k, y < 0) ∨
  ∃ cur, 0 ≤ cur ∧ cur ≤ size ∧ cur ∈ E.take k ∧ (∀ y ∈ E.take k, y ≤ cur ∨ size < y) ∧ on = (decide (cur < size) && p cur) ∧
    ((on = false ∧ good size (-1) acc = true ∧ lastEnd (-1) acc ≤ cur ∧ ∀ u, mem acc u = (decide (0 ≤ u ∧ u < cur) && p u)) ∨
     (on = true ∧ ∃ l f, acc = l ++ [(f, 0)] ∧ good size (-1) l = true ∧ lastEnd (-1) l < f ∧ 0 ≤ f ∧ f ≤ cur ∧ ∀ u, (mem l u || decide (f ≤ u ∧ u < cur)) = (decide (0 ≤ u ∧ u < cur) && p u)))
theorem Sinv.start (size : Int) (p : Int → Bool) (E : List Int) : Sinv size p E 0 [] false := .inl ⟨rfl, rfl, by simp⟩
theorem asc_take {E : List Int} (h : E.Pairwise (· < ·)) {k : Nat} {t : Int} (hk : E[k]? = some t) : (∀ y ∈ E.take k, y < t) ∧ (∀ y ∈ E.drop k, t ≤ y) ∧ E.take (k + 1) = E.take k ++ [t] := by
  obtain ⟨hlt, rfl⟩ := List.getElem?_eq_some_iff.1 hk
  have hsp : E = E.take k ++ E.drop k := (List.take_append_drop k E).symm
  have hdr : E.drop k = E[k] :: E.drop (k + 1) := List.drop_eq_getElem_cons hlt
  have h' := h
  rw [hsp, List.pairwise_append] at h'
  obtain ⟨_, h2, h3⟩ := h'
  rw [hdr] at h2
  refine ⟨fun y hy => ?_, fun y hy => ?_, List.take_succ_eq_append_getElem hlt⟩
  · exact h3 y hy E[k] (by rw [hdr]; exact List.mem_cons_self)
  · rw [hdr] at hy
    rcases List.mem_cons.1 hy with rfl | hy
    · exact Int.le_refl _
    · have := (List.pairwise_cons.1 h2).1 y hy
      have : E[k] < y := by simpa using this
      omega
theorem mem_split {E : List Int} (k : Nat) {y : Int} (h : y ∈ E) : y ∈ E.take k ∨ y ∈ E.drop k := by
  rw [← List.take_append_drop k E] at h
  exact List.mem_append.1 h
theorem Sinv.skip {size : Int} {p : Int → Bool} {E : List Int} {k : Nat} {acc : List Sp} {on : Bool} {t : Int} (hE : Edg size p E) (h : Sinv size p E k acc on) (hk : E[k]? = some t) (ht : ¬ (0 ≤ t ∧ t ≤ size)) : Sinv size p E (k + 1) acc on := by
  obtain ⟨a1, a2, a3⟩ := asc_take hE.asc hk
  have hp := hE.pos
  rcases h with ⟨h1, h2, h3⟩ | ⟨cur, c1, c2, c3, c4, c5, c6⟩
  · refine .inl ⟨h1, h2, fun y hy => ?_⟩
    rw [a3] at hy
    rcases List.mem_append.1 hy with hy | hy
    · exact h3 y hy
    · simp at hy
      subst hy
      rcases mem_split k hE.zero with h0 | h0
      · have := h3 0 h0; omega
      · have := a2 0 h0; omega
  · have := a1 cur c3
    refine .inr ⟨cur, c1, c2, by rw [a3]; exact List.mem_append.2 (.inl c3), fun y hy => ?_, c5, c6⟩
    rw [a3] at hy
    rcases List.mem_append.1 hy with hy | hy
    · exact c4 y hy
    · simp at hy; subst hy; right; omega
/-- where the next edge is, and that nothing changes up to it -/
theorem Sinv.next {size : Int} {p : Int → Bool} {E : List Int} {k : Nat} {acc : List Sp} {on : Bool} {t : Int} (hE : Edg size p E) (h : Sinv size p E k acc on) (hk : E[k]? = some t) (h0 : 0 ≤ t) (h1 : t ≤ size) :
    (t ∈ E.take (k + 1) ∧ ∀ y ∈ E.take (k + 1), y ≤ t ∨ size < y) ∧
    ((on = false ∧ good size (-1) acc = true ∧ (acc = [] ∨ lastEnd (-1) acc < t) ∧ ∀ u, mem acc u = (decide (0 ≤ u ∧ u < t) && p u)) ∨
     (on = true ∧ ∃ l f, acc = l ++ [(f, 0)] ∧ good size (-1) l = true ∧ lastEnd (-1) l < f ∧ 0 ≤ f ∧ f < t ∧ ∀ u, (mem l u || decide (f ≤ u ∧ u < t)) = (decide (0 ≤ u ∧ u < t) && p u))) := by
  obtain ⟨a1, a2, a3⟩ := asc_take hE.asc hk
  refine ⟨⟨by rw [a3]; simp, fun y hy => ?_⟩, ?_⟩
  · rw [a3] at hy
    rcases List.mem_append.1 hy with hy | hy
    · have := a1 y hy; omega
    · simp at hy; omega
  · rcases h with ⟨rfl, rfl, h3⟩ | ⟨cur, c1, c2, c3, c4, c5, c6⟩
    · left
      have ht : t = 0 := by
        rcases mem_split k hE.zero with h | h
        · have := h3 0 h; omega
        · have := a2 0 h; omega
      subst ht
      refine ⟨rfl, rfl, .inl rfl, fun u => ?_⟩
      rw [decide_eq_false (by omega)]; rfl
    · have hct := a1 cur c3
      have hcs : cur < size := by omega
      have hsame : ∀ u, cur ≤ u → u < t → p u = p cur := by
        intro u hu1 hu2
        refine hE.same cur u c1 hu1 (by omega) fun y hy => ?_
        rcases mem_split k hy with h | h
        · rcases c4 y h with h | h
          · exact .inl h
          · right; omega
        · have := a2 y h; right; omega
      rw [decide_eq_true hcs, Bool.true_and] at c5
      rcases c6 with ⟨d1, d2, d3, d4⟩ | ⟨d1, l, f, d2, d3, d4, d5, d6, d7⟩
      · left
        refine ⟨d1, d2, .inr (by omega), fun u => ?_⟩
        rw [d4 u]
        by_cases hu : u < cur
        · by_cases hu0 : 0 ≤ u
          · rw [decide_eq_true (by omega : 0 ≤ u ∧ u < cur), decide_eq_true (by omega : 0 ≤ u ∧ u < t)]
          · rw [decide_eq_false (by omega : ¬ (0 ≤ u ∧ u < cur)), decide_eq_false (by omega : ¬ (0 ≤ u ∧ u < t))]
        · rw [decide_eq_false (by omega : ¬ (0 ≤ u ∧ u < cur))]
          by_cases hu2 : u < t
          · rw [hsame u (by omega) hu2, ← c5, d1]; simp
          · rw [decide_eq_false (by omega : ¬ (0 ≤ u ∧ u < t))]
      · right
        refine ⟨d1, l, f, d2, d3, d4, d5, by omega, fun u => ?_⟩
        by_cases hu : u < cur
        · have := d7 u
          by_cases hu0 : 0 ≤ u
          · rw [decide_eq_true (by omega : 0 ≤ u ∧ u < cur)] at this
            rw [decide_eq_true (by omega : 0 ≤ u ∧ u < t), ← this]
            congr 1
            rw [Bool.eq_iff_iff]; simp only [decide_eq_true_eq]; omega
          · rw [decide_eq_false (by omega : ¬ (0 ≤ u ∧ u < cur))] at this
            rw [decide_eq_false (by omega : ¬ (0 ≤ u ∧ u < t)), Bool.false_and]
            rw [Bool.false_and] at this
            rw [decide_eq_false (by omega : ¬ (f ≤ u ∧ u < t))]
            have h2 := (Bool.or_eq_false_iff.1 this).1
            rw [h2]; rfl
        · by_cases hu2 : u < t
          · rw [hsame u (by omega) hu2, ← c5, d1, decide_eq_true (by omega : f ≤ u ∧ u < t), decide_eq_true (by omega : 0 ≤ u ∧ u < t)]; simp
          · rw [decide_eq_false (by omega : ¬ (f ≤ u ∧ u < t)), decide_eq_false (by omega : ¬ (0 ≤ u ∧ u < t))]
            have := d7 u
            rw [decide_eq_false (by omega : ¬ (f ≤ u ∧ u < cur)), decide_eq_false (by omega : ¬ (0 ≤ u ∧ u < cur))] at this
            exact this
theorem Sinv.begin {size : Int} {p : Int → Bool} {E : List Int} {k : Nat} {acc : List Sp} {t : Int} (hE : Edg size p E) (h : Sinv size p E k acc false) (hk : E[k]? = some t) (h0 : 0 ≤ t) (h1 : t < size) (hp : p t = true) : Sinv size p E (k + 1) (acc ++ [(t, 0)]) true := by
  obtain ⟨⟨e1, e2⟩, e3⟩ := h.next hE hk h0 (by omega)
  rcases e3 with ⟨_, d2, d3, d4⟩ | ⟨h, _⟩
  · refine .inr ⟨t, h0, by omega, e1, e2, by rw [hp, decide_eq_true h1]; rfl, .inr ⟨rfl, acc, t, rfl, d2, ?_, h0, Int.le_refl _, fun u => ?_⟩⟩
    · rcases d3 with rfl | d3
      · simp [lastEnd]; omega
      · exact d3
    · rw [d4 u, decide_eq_false (by omega : ¬ (t ≤ u ∧ u < t))]; simp
  · simp at h
theorem Sinv.stay {size : Int} {p : Int → Bool} {E : List Int} {k : Nat} {acc : List Sp} {t : Int} (hE : Edg size p E) (h : Sinv size p E k acc false) (hk : E[k]? = some t) (h0 : 0 ≤ t) (h1 : t ≤ size) (hp : (decide (t < size) && p t) = false) : Sinv size p E (k + 1) acc false := by
  obtain ⟨⟨e1, e2⟩, e3⟩ := h.next hE hk h0 h1
  rcases e3 with ⟨_, d2, d3, d4⟩ | ⟨h, _⟩
  · refine .inr ⟨t, h0, h1, e1, e2, hp.symm, .inl ⟨rfl, d2, ?_, d4⟩⟩
    rcases d3 with rfl | d3
    · simp [lastEnd]; omega
    · omega
  · simp at h
theorem Sinv.on {size : Int} {p : Int → Bool} {E : List Int} {k : Nat} {acc : List Sp} {t : Int} (hE : Edg size p E) (h : Sinv size p E k acc true) (hk : E[k]? = some t) (h0 : 0 ≤ t) (h1 : t < size) (hp : p t = true) : Sinv size p E (k + 1) acc true := by
  obtain ⟨⟨e1, e2⟩, e3⟩ := h.next hE hk h0 (by omega)
  rcases e3 with ⟨h, _⟩ | ⟨_, l, f, d2, d3, d4, d5, d6, d7⟩
  · simp at h
  · exact .inr ⟨t, h0, by omega, e1, e2, by rw [hp, decide_eq_true h1]; rfl, .inr ⟨rfl, l, f, d2, d3, d4, d5, by omega, d7⟩⟩
theorem Sinv.form {size : Int} {p : Int → Bool} {E : List Int} {k : Nat} {acc : List Sp} (h : Sinv size p E k acc true) : ∃ l f, acc = l ++ [(f, 0)] := by
  rcases h with ⟨_, h, _⟩ | ⟨_, _, _, _, _, _, ⟨h, _⟩ | ⟨_, l, f, h, _⟩⟩
  · simp at h
  · simp at h
  · exact ⟨l, f, h⟩
theorem Sinv.end {size : Int} {p : Int → Bool} {E : List Int} {k : Nat} {l : List Sp} {f t : Int} (hE : Edg size p E) (h : Sinv size p E k (l ++ [(f, 0)]) true) (hk : E[k]? = some t) (h0 : 0 ≤ t) (h1 : t ≤ size) (hp : (decide (t < size) && p t) = false) : Sinv size p E (k + 1) (l ++ [(f, t)]) false := by
  obtain ⟨⟨e1, e2⟩, e3⟩ := h.next hE hk h0 h1
  rcases e3 with ⟨h, _⟩ | ⟨_, l', f', d2, d3, d4, d5, d6, d7⟩
  · simp at h
  · have hl := congrArg List.dropLast d2
    have hf := congrArg List.getLast? d2
    simp at hl hf
    subst hl
    subst hf
    refine .inr ⟨t, h0, h1, e1, e2, hp.symm, .inl ⟨rfl, good_snoc.2 ⟨d3, d4, d6, h1⟩, by rw [lastEnd_snoc]; exact Int.le_refl _, fun u => ?_⟩⟩
    rw [mem_append, mem_cons, ← d7 u]
    simp only [mem_nil, Bool.or_false]
theorem Sinv.done {size : Int} {p : Int → Bool} {E : List Int} {acc : List Sp} {on : Bool} (hE : Edg size p E) (h : Sinv size p E E.length acc on) : good size (-1) acc = true ∧ ∀ u, mem acc u = (decide (0 ≤ u ∧ u < size) && p u) := by
  have hp := hE.pos
  rw [Sinv, List.take_length] at h
  rcases h with ⟨_, _, h⟩ | ⟨cur, c1, c2, c3, c4, c5, c6⟩
  · have := h 0 hE.zero; omega
  · have : cur = size := by
      have := c4 size hE.last; omega
    subst this
    rw [decide_eq_false (by omega), Bool.false_and] at c5
    rcases c6 with ⟨_, d2, _, d4⟩ | ⟨d1, _⟩
    · exact ⟨d2, d4⟩
    · rw [c5] at d1; simp at d1
end SpanM
end Go.Proofs.Ytnbfadfhpegddaa

/- Contracts of package dutyref that supply's statements need: Between, SetRight, CountOf, EdgesOf. -/
set_option linter.unusedVariables false
namespace Go.Proofs.Ytnbfadfhpegddaa
open Go.RowKit Go.Shelf
open SpanM SupM
namespace SpanC
theorem between_yes (x lo hi : Int) (w : World) (h1 : lo ≤ x) (h2 : x ≤ hi) :
    Calls Try.prog 36 #[.int .i64 x, .int .i64 lo, .int .i64 hi] w fun e w' => e = .returned (.bool true) ∧ w' = w := by
  go_enter Try.func36, Try.ntmps36
  go_wp2
  go_ret
  exact ⟨rfl, rfl⟩
theorem between_no (x lo hi : Int) (w : World) (h : ¬ (lo ≤ x ∧ x ≤ hi)) :
    Calls Try.prog 36 #[.int .i64 x, .int .i64 lo, .int .i64 hi] w fun e w' => e = .returned (.bool false) ∧ w' = w := by
  by_cases h1 : lo ≤ x
  · have h2 : ¬ x ≤ hi := fun k => h ⟨h1, k⟩
    clear h
    go_enter Try.func36, Try.ntmps36
    go_wp2
    go_ret
    exact ⟨rfl, rfl⟩
  · clear h
    go_enter Try.func36, Try.ntmps36
    go_wp2
    go_ret
    exact ⟨rfl, rfl⟩

theorem right_arg (size : Int) (a : Option Addr) (n cap : Nat) (w : World) (h : ¬ (1 ≤ size ∧ size ≤ 1000000)) :
    Calls Try.prog 19 #[.agg #[.int .i64 size, .slice a n cap]] w fun e w' => e = .returned (.int .i64 1) ∧ Below w.heap.size w w' := by
  go_enter Try.func19, Try.ntmps19
  go_wp2_with (first | (go_at_call 36; go_call (between_yes _ _ _ _) as e w' ⟨rfl, rfl⟩) | (go_at_call 36; go_call (between_no _ _ _ _) as e w' ⟨rfl, rfl⟩))
  go_ret
  exact ⟨rfl, by go_grown⟩
theorem right_large (size : Int) (a : Option Addr) (n cap : Nat) (w : World) (h1 : 1 ≤ size) (h2 : size ≤ 1000000) (h : 200 < n) :
    Calls Try.prog 19 #[.agg #[.int .i64 size, .slice a n cap]] w fun e w' => e = .returned (.int .i64 2) ∧ Below w.heap.size w w' := by
  have hn : (200 : Int) < (n : Int) := by omega
  go_enter Try.func19, Try.ntmps19
  go_wp2_with (first | (go_at_call 36; go_call (between_yes _ _ _ _) as e w' ⟨rfl, rfl⟩) | (go_at_call 36; go_call (between_no _ _ _ _) as e w' ⟨rfl, rfl⟩))
  go_ret
  exact ⟨rfl, by go_grown⟩
set_option maxHeartbeats 800000 in
theorem right_list (size : Int) (a : Option Addr) (cap : Nat) (l : List Sp) (w : World) (h1 : 1 ≤ size) (h2 : size ≤ 1000000) (h : ¬ 200 < l.length) (hr : Sps w a l) :
    Calls Try.prog 19 #[.agg #[.int .i64 size, .slice a l.length cap]] w fun e w' => e = .returned (.int .i64 (chkG size l)) ∧ Below w.heap.size w w' := by
  have hn : ¬ (200 : Int) < (l.length : Int) := by omega
  have HR : Hid (Sps w a l) := hr
  clear hr
  go_enter Try.func19, Try.ntmps19
  go_wp2_with (first | (go_at_call 36; go_call (between_yes _ _ _ _) as e w' ⟨rfl, rfl⟩) | (go_at_call 36; go_call (between_no _ _ _ _) as e w' ⟨rfl, rfl⟩))
  go_loopw [17] (fun v17 wr => ∃ (k : Nat) (E : Int), k ≤ l.length ∧ v17 = .int .i64 k ∧ Hid (good size (-1) l = good size E (l.drop k)) ∧ ((k = 0 ∧ E = -1) ∨ (0 < k ∧ E = (l.getD (k - 1) (0, 0)).2 ∧ 0 ≤ E ∧ E ≤ size)) ∧ Below (w.heap.size + 1) (w.alloc (.cells #[.int .i64 size, .slice a l.length cap] 26)) wr) (fun v17 _ => l.length - (intOf v17).toNat)
  case atStart => exact ⟨0, -1, by omega, rfl, by show _ = _; simp, .inl ⟨rfl, rfl⟩, Below.refl _ _⟩
  case round =>
    obtain ⟨k, E, hk, rfl, hg, hE, hb⟩ := hrel
    have hsz := hb.size
    simp only [World.size_alloc] at hsz
    have hB : Hid _ := hb
    by_cases hlt : k < l.length
    · obtain ⟨b, off, rfl, hbw, d1, d2⟩ := Sps.get HR.out hb k hlt
      have d3 : wr.cell? ⟨w.heap.size, 0, none⟩ = some (.int .i64 size) := (hb.cell (by simp)).trans (World.cell?_alloc_at _ _ _ _ rfl)
      have d4 : wr.cell? ⟨w.heap.size, 1, none⟩ = some (.slice (some ⟨b, off, none⟩) l.length cap) := (hb.cell (by simp)).trans (World.cell?_alloc_at _ _ _ _ rfl)
      have hd := drop_get l k hlt
      have hw1 : b < wr.heap.size := by omega
      have hw2 : w.heap.size < wr.heap.size := by omega
      have hN : ∀ e, (l.getD k (0, 0)).2 = e → 0 ≤ e → e ≤ size → ((k + 1 = 0 ∧ e = -1) ∨ (0 < k + 1 ∧ e = (l.getD (k + 1 - 1) (0, 0)).2 ∧ 0 ≤ e ∧ e ≤ size)) := by
        intro e he h1 h2
        right
        exact ⟨by omega, by rw [← he]; rfl, h1, h2⟩
      have HN : Hid _ := hN
      clear hN
      generalize hz : l.getD k (0, 0) = z at d1 d2 hd
      obtain ⟨f, t⟩ := z
      have Hd : Hid _ := hd
      have Hz : Hid _ := hz
      clear hz hd
      simp only at d1 d2
      have HF4 : Hid (¬ (E < f ∧ f < t ∧ t ≤ size) → chkG size l = 4) := by
        intro ho
        unfold chkG
        rw [if_neg]
        rw [hg.out, Hd.out]
        simp [good]
        intro _ _ _
        omega
      have hbe : Below w.heap.size w wr := of_alloc hB.out
      have C : (E < f ∧ f < t ∧ t ≤ size) ∨ f ≤ E ∨ (E < f ∧ t ≤ f) ∨ (E < f ∧ f < t ∧ size < t) := by omega
      rcases hE with ⟨rfl, rfl⟩ | ⟨hk0, hE1, hE2, hE3⟩
      · clear hb
        simp only [Nat.zero_mul, Nat.add_zero] at d1 d2
        rcases C with ⟨o1, o2, o3⟩ | o1 | ⟨o1, o2⟩ | ⟨o1, o2, o3⟩
        · have o4 : ¬ f < 0 := by omega
          go_wp2_with fail
          go_roundw
          case rel =>
            refine ⟨0 + 1, t, by omega, by go_num, ?_, HN.out t (by rw [Hz.out]) (by omega) (by omega), by have := hB.out; go_grown⟩
            show _ = _
            rw [hg.out, Hd.out]
            simp [good, o1, o2, o3]
          case measure => simp [intOf]; omega
        all_goals
          have HF : Hid (chkG size l = 4) := HF4.out (by omega)
          have o4 : f < 0 ∨ ¬ f < 0 := by omega
          rcases o4 with o4 | o4
          all_goals
            first
            | omega
            | (go_wp2_with fail
               go_ret
               exact ⟨ret_int HF.out.symm, by go_grown⟩)
      · obtain ⟨b', off', eb, hbw', e1, e2⟩ := Sps.get HR.out hb (k - 1) (by omega)
        obtain ⟨rfl, rfl⟩ : b = b' ∧ off = off' := by simpa using eb
        rw [← hE1] at e2
        clear hb e1 eb
        have hE1' : Hid _ := hE1
        clear hE1
        obtain ⟨j, rfl⟩ : ∃ j, k = j + 1 := ⟨k - 1, by omega⟩
        simp only [Nat.add_sub_cancel] at e2
        have hj : (j : Int) + 1 - 1 = (j : Int) := by omega
        rcases C with ⟨o1, o2, o3⟩ | o1 | ⟨o1, o2⟩ | ⟨o1, o2, o3⟩
        · have o4 : ¬ f < E + 1 := by omega
          go_wp2_with fail
          go_roundw
          case rel =>
            refine ⟨j + 1 + 1, t, by omega, by go_num, ?_, HN.out t (by rw [Hz.out]) (by omega) (by omega), by have := hB.out; go_grown⟩
            show _ = _
            rw [hg.out, Hd.out]
            simp [good, o1, o2, o3]
          case measure => simp [intOf]; omega
        · have o4 : f < E + 1 := by omega
          have HF : Hid (chkG size l = 4) := HF4.out (by omega)
          go_wp2_with fail
          go_ret
          exact ⟨ret_int HF.out.symm, by go_grown⟩
        all_goals
          have HF : Hid (chkG size l = 4) := HF4.out (by omega)
          have o4 : ¬ f < E + 1 := by omega
          go_wp2_with fail
          go_ret
          exact ⟨ret_int HF.out.symm, by go_grown⟩
    · have HF : Hid (chkG size l = 0) := by
        show _ = _
        unfold chkG
        rw [if_pos]
        rw [hg.out, List.drop_of_length_le (by omega)]; rfl
      clear hb
      go_wp2_with fail
      go_ret
      exact ⟨ret_int HF.out.symm, of_alloc hB.out⟩
theorem right_any (size : Int) (a : Option Addr) (cap : Nat) (l : List Sp) (w : World) (hr : Sps w a l) :
    Calls Try.prog 19 #[.agg #[.int .i64 size, .slice a l.length cap]] w fun e w' => e = .returned (.int .i64 (chk size l)) ∧ Below w.heap.size w w' := by
  unfold chk
  split
  · split
    · exact right_large size a _ cap w (by omega) (by omega) (by omega)
    · exact right_list size a cap l w (by omega) (by omega) (by omega) hr
  · exact right_arg size a _ cap w (by omega)
theorem cb_le2 {size t : Int} {l : List Sp} (h1 : 1 ≤ size) (h2 : size ≤ 1000000) (h3 : good size (-1) l = true) (ht : 0 ≤ t) (ht2 : t ≤ 2199023255552) : 0 ≤ cb size l t ∧ cb size l t ≤ 5000000000000 := by
  obtain ⟨q1, q2, q3, q4, q5, q6, q7, q8⟩ := cb_bd h1 h3 ht
  unfold cb
  omega
set_option maxHeartbeats 800000 in
theorem countOf_any (size t : Int) (a : Option Addr) (cap : Nat) (l : List Sp) (w : World) (hr : Sps w a l) (hk : chk size l = 0) (ht : 0 ≤ t) (ht2 : t ≤ 2199023255552) :
    Calls Try.prog 61 #[.agg #[.int .i64 size, .slice a l.length cap], .int .i64 t] w fun e w' => e = .returned (.int .i64 (cb size l t)) ∧ Below w.heap.size w w' := by
  obtain ⟨s1, s2, s3, s4⟩ := chk_zero hk
  have HG : Hid (∀ x ∈ l, -1 < x.1 ∧ x.1 < x.2 ∧ x.2 ≤ size) := good_each s4
  have HS : Hid (good size (-1) l = true) := s4
  have HR : Hid (Sps w a l) := hr
  clear hr hk s4
  go_enter Try.func61, Try.ntmps61
  go_wp2_with fail
  go_loopw [5, 13] (fun v5 v13 wr => ∃ (k : Nat) (c : Int), k ≤ l.length ∧ v5 = .int .i64 c ∧ v13 = .int .i64 k ∧ Hid (c = cb size (l.take k) t) ∧ 0 ≤ c ∧ c ≤ 5000000000000 ∧ Below (w.heap.size + 1) (w.alloc (.cells #[.int .i64 size, .slice a l.length cap] 26)) wr) (fun _ v13 _ => l.length - (intOf v13).toNat)
  case atStart => exact ⟨0, 0, by omega, rfl, rfl, by show _ = _; simp [cb, cnt], by omega, by omega, Below.refl _ _⟩
  case round =>
    obtain ⟨k, c, hk, rfl, rfl, hc, c1, c2, hb⟩ := hrel
    have hsz := hb.size
    simp only [World.size_alloc] at hsz
    have hB : Hid _ := hb
    by_cases hlt : k < l.length
    · obtain ⟨b, off, rfl, hbw, d1, d2⟩ := Sps.get HR.out hb k hlt
      have d3 : wr.cell? ⟨w.heap.size, 0, none⟩ = some (.int .i64 size) := (hb.cell (by simp)).trans (World.cell?_alloc_at _ _ _ _ rfl)
      have hw2 : w.heap.size < wr.heap.size := by omega
      have hge := HG.out (l.getD k (0, 0)) (by simp [List.getD, hlt])
      have hbd := cb_le2 s1 s2 (good_take HS.out (k + 1)) ht ht2
      have hd := take_snoc l k hlt
      clear hb
      generalize hz : l.getD k (0, 0) = z at d1 d2 hd hge
      obtain ⟨f, e⟩ := z
      simp only at d1 d2 hge
      obtain ⟨g1, g2, g3⟩ := hge
      have hsn := cb_snoc (l := l.take k) (x := (f, e)) s1 (by simp only; omega) (by simp only; omega) (by simp only; omega) ht
      rw [← hd, ← hc.out] at hsn
      rw [hsn] at hbd
      have hwb := whole_bd (x := (f, e)) s1 (by simp only; omega) (by simp only; omega) (by simp only; omega) ht
      have hwe : whole size t (f, e) = if e ≤ t then (t - e) / size + 1 else 0 := rfl
      simp only at hsn hbd hwb hwe
      generalize whole size t (f, e) = W at hsn hbd hwb hwe
      obtain ⟨w1, w2, w3, w4, w5, w6⟩ := hwb
      obtain ⟨x1, x2⟩ := hbd
      have HSN : Hid _ := hsn
      clear hz hd hsn
      by_cases ho : e ≤ t
      · rw [if_pos ho] at hwe
        have q0 : 0 ≤ (t - e) / size := Int.ediv_nonneg (by omega) (by omega)
        have q1 : (t - e) / size ≤ t - e := Int.ediv_le_self _ (by omega)
        subst hwe
        by_cases hk2 : f < t - ((t - e) / size + 1) * size
        · go_wp2_with fail
          go_roundw
          case rel => exact ⟨k + 1, _, by omega, rfl, by go_num, by show _ = _; rw [HSN.out]; omega, by omega, by omega, by have := hB.out; go_grown⟩
          case measure => simp [intOf]; omega
        · go_wp2_with fail
          go_roundw
          case rel => exact ⟨k + 1, _, by omega, rfl, by go_num, by show _ = _; rw [HSN.out]; omega, by omega, by omega, by have := hB.out; go_grown⟩
          case measure => simp [intOf]; omega
      · rw [if_neg ho] at hwe
        subst hwe
        simp only [Int.zero_mul, Int.sub_zero, Int.add_zero] at *
        by_cases hk2 : f < t
        · go_wp2_with fail
          go_roundw
          case rel => exact ⟨k + 1, _, by omega, rfl, by go_num, by show _ = _; rw [HSN.out]; omega, by omega, by omega, by have := hB.out; go_grown⟩
          case measure => simp [intOf]; omega
        · go_wp2_with fail
          go_roundw
          case rel => exact ⟨k + 1, _, by omega, rfl, by go_num, by show _ = _; rw [HSN.out]; omega, by omega, by omega, by have := hB.out; go_grown⟩
          case measure => simp [intOf]; omega
    · have HF : Hid (c = cb size l t) := by
        show _ = _
        rw [hc.out, List.take_of_length_le (by omega)]
      clear hb
      go_wp2_with fail
      go_ret
      exact ⟨ret_int HF.out, of_alloc hB.out⟩
/-- lists of spans, as they are handed on to EdgesOf -/
def Lists (w : World) (B : Nat) (ls : List (Option Addr × Nat × List Sp)) : Prop :=
  ∀ i x, ls[i]? = some x → w.cell? ⟨B, i, none⟩ = some (.slice x.1 x.2.2.length x.2.1) ∧ Sps w x.1 x.2.2
def allOf (ls : List (Option Addr × Nat × List Sp)) : List Sp := ls.flatMap fun x => x.2.2
theorem allOf_snoc (ls : List (Option Addr × Nat × List Sp)) (x : Option Addr × Nat × List Sp) : allOf (ls ++ [x]) = allOf ls ++ x.2.2 := by simp [allOf]
theorem Lists.below {w w' : World} {B : Nat} {ls : List (Option Addr × Nat × List Sp)} (h : Lists w B ls) (hb : Below w.heap.size w w') : Lists w' B ls := by
  intro i x hx
  obtain ⟨h1, h2⟩ := h i x hx
  exact ⟨(hb.cell (World.block_lt_of_cell? w _ h1)).trans h1, h2.below hb (Nat.le_refl _)⟩
set_option maxRecDepth 20000 in
set_option maxHeartbeats 1000000 in
theorem edgesOf_any (B c : Nat) (ls : List (Option Addr × Nat × List Sp)) (w : World) (h : Lists w B ls) (hl : (allOf ls).length ≤ 4000000) (hn : ls.length ≤ 2) :
    Calls Try.prog 69 #[.slice (some ⟨B, 0, none⟩) ls.length c] w fun e w' => (∃ v, e = .returned v ∧ OwnI w' w.heap.size v (edges (allOf ls))) ∧ Below w.heap.size w w' := by
  obtain ⟨i0, hi, hz0, hz1, hz2⟩ := info_parts infoInt
  have Hi := hid hi
  have Hz0 := hid hz0
  have Hz1 := hid hz1
  have Hz2 := hid hz2
  have HL := hid hl
  have HS := hid h
  clear hi hz0 hz1 hz2 hl h
  go_enter Try.func69, Try.ntmps69
  go_wp2_with fail
  go_loopw [3, 10] (fun v3 v10 wr => ∃ k : Nat, k ≤ ls.length ∧ v10 = .int .i64 k ∧ OwnI wr w.heap.size v3 (edges (allOf (ls.take k))) ∧ Below w.heap.size w wr) (fun _ v10 _ => ls.length - (intOf v10).toNat)
  case atStart => exact ⟨0, by omega, rfl, World.ownsRow_nil _ _ _ _, Below.refl _ _⟩
  case round =>
    obtain ⟨k, hk, rfl, ho, hb⟩ := hrel
    have HO := hid ho
    have HB := hid hb
    obtain ⟨p3, n3, c3, hv3⟩ := ho.slice
    subst hv3
    by_cases hlt : k < ls.length
    · obtain ⟨x, hx⟩ : ∃ x, ls[k]? = some x := ⟨_, List.getElem?_eq_getElem hlt⟩
      obtain ⟨q1, q2⟩ := HS.out.below hb k x hx
      have hts : ls.take (k + 1) = ls.take k ++ [x] := by
        obtain ⟨h1, rfl⟩ := List.getElem?_eq_some_iff.1 hx
        exact List.take_succ_eq_append_getElem h1
      have hbd : (allOf (ls.take k)).length + x.2.2.length ≤ 4000000 := by
        have h1 : (allOf (ls.take (k + 1))).length ≤ (allOf ls).length := by
          have : allOf ls = allOf (ls.take (k + 1)) ++ allOf (ls.drop (k + 1)) := by
            unfold allOf; rw [← List.flatMap_append, List.take_append_drop]
          rw [this]; simp
        rw [hts, allOf_snoc, List.length_append] at h1
        have := HL.out
        omega
      obtain ⟨ax, cx, lx⟩ := x
      simp only at q1 q2 hbd
      have HBD := hid hbd
      have HTS := hid hts
      have Q2 := hid (HS.out k _ hx).2
      clear ho hb hbd hts q2 hx
      generalize hP : allOf (ls.take k) = P at *
      have HP := hid hP
      clear hP
      go_wp2_with fail
      go_loopw [3, 16] (fun v3 v16 ws => ∃ j : Nat, j ≤ lx.length ∧ v16 = .int .i64 j ∧ OwnI ws w.heap.size v3 (edges P ++ edges (lx.take j)) ∧ Below w.heap.size w ws ∧ True) (fun _ v16 _ => lx.length - (intOf v16).toNat)
      case atStart => exact ⟨0, by omega, rfl, by simpa [edges] using HO.out, HB.out, trivial⟩
      case round =>
        obtain ⟨j, hj, rfl, hos, hbs, hbr⟩ := hrel
        have HOS := hid hos
        have HBS := hid hbs
        have hsz := hbs.size
        obtain ⟨p4, n4, c4, hv4⟩ := hos.slice
        subst hv4
        by_cases hjl : j < lx.length
        · obtain ⟨b, off, rfl, hbw, d1, d2⟩ := (Q2.out.below hbs (Nat.le_refl _)).at j hjl
          have hd := take_snoc lx j hjl
          generalize lx.getD j (0, 0) = z at d1 d2 hd
          obtain ⟨f, t⟩ := z
          simp only at d1 d2
          have HE : Hid (edges P ++ edges (lx.take (j + 1)) = (edges P ++ edges (lx.take j)) ++ [f, t]) := by
            show _ = _
            rw [hd, edges_append]; simp [edges]
          have HN : Hid ((edges P ++ edges (lx.take j)).length ≤ 8000000) := by
            show _ ≤ _
            have := HBD.out
            rw [List.length_append, edges_length, edges_length, List.length_take]
            omega
          clear hd hos hbs hbr
          have HJL := hid hjl
          have hjb : (j : Int) ≤ 4000000 := by have := HBD.out; omega
          generalize edges P ++ edges (lx.take j) = Z at *
          go_wp2_with (at_builtin; refine wpList_append_own _ rfl _ _ 23 rfl w.heap.size 3 i0 (.int .i64 0) 1 8 Try.underlying23 Hi.out Hz0.out Hz1.out Hz2.out rfl (by decide) _ Z.length (Z.map (Value.int .i64)) rfl ?qc0 ⟨wr.heap.size + 1, 0, none⟩ 2 2 [.int .i64 f, .int .i64 t] ?qcx ?qc1 ?qc2 ?qc3 ?qc4 ?qc5 ?qc6 ?_)
          case qc0 => exact World.ownsRow.alloc (World.ownsRow.alloc HOS.out _) _
          case qcx => rfl
          case qc1 => simp
          case qc2 =>
            intro i u hi
            match i, hi with
            | 0, hi => simp at hi; subst hi; exact World.cell?_alloc_at _ _ _ _ (by simp)
            | 1, hi => simp at hi; subst hi; exact World.cell?_alloc_at _ _ _ _ (by simp)
            | i + 2, hi => simp at hi
          case qc3 => intro u hu; simp at hu; rcases hu with rfl | rfl <;> rfl
          case qc4 => have := HN.out; unfold maxLen; omega
          case qc5 => have := HN.out; omega
          case qc6 => simp; omega
          intro v' w7 hown hgrow hnil
          have HO7 : Hid (OwnI w7 w.heap.size v' (Z ++ [f, t])) := by
            show w7.ownsRow _ _ _ _ _ _
            simpa using hown
          have HB7 := hid (HBS.out.trans (Below.grown (Below.alloc (Below.alloc (Below.refl _ _) hsz _) (by simp; omega) _) hgrow (by simp; omega) (fun k hk => (World.ownsRow.lt HOS.out k hk).1)))
          clear hown hgrow hnil
          go_wp2_with fail
          go_roundw
          case rel => exact ⟨j + 1, by have := HJL.out; omega, by go_num, by rw [HE.out]; exact HO7.out, HB7.out, trivial⟩
          case measure => have := HJL.out; simp [intOf]; omega
        · have he : lx.take j = lx := List.take_of_length_le (by omega)
          rw [he] at HOS
          clear hos hbs hbr
          go_wp2_with fail
          go_roundw
          case rel =>
            refine ⟨k + 1, by omega, by go_num, ?_, HBS.out⟩
            have h := HOS.out
            rw [← edges_append] at h
            have e : allOf (ls.take (k + 1)) = P ++ lx := by rw [HTS.out, allOf_snoc, HP.out]
            rw [e]; exact h
          case measure => simp [intOf]; omega
    · have he : ls.take k = ls := List.take_of_length_le (by omega)
      rw [he] at HO
      clear ho hb
      go_wp2_with fail
      go_ret
      exact ⟨⟨_, rfl, HO.out⟩, HB.out⟩
end SpanC
end Go.Proofs.Ytnbfadfhpegddaa

/- Contracts of package dutyref: supplyEdges, SupplyBounds. -/
set_option linter.unusedVariables false
namespace Go.Proofs.Ytnbfadfhpegddaa
open Go.RowKit Go.Shelf
open SpanM SupM
namespace SpanC
/-- where so many in a row are counted -/
def sedges (size n : Int) (zs : List Int) : List Int := 0 :: zs.flatMap (fun e => [e % size, (e - n) % size])
theorem sedges_snoc (size n : Int) (zs : List Int) (e : Int) : sedges size n (zs ++ [e]) = sedges size n zs ++ [e % size, (e - n) % size] := by simp [sedges]
theorem sedges_len (size n : Int) (zs : List Int) : (sedges size n zs).length = zs.length * 2 + 1 := by
  induction zs with
  | nil => rfl
  | cons x r ih => simp only [sedges, List.flatMap_cons, List.length_cons, List.length_append, List.length_nil] at ih ⊢; omega
theorem edges_bd {size : Int} {l : List Sp} (hg : good size (-1) l = true) : ∀ y ∈ edges l, 0 ≤ y ∧ y ≤ size := by
  have h := good_each hg
  induction l with
  | nil => intro y hy; simp [edges] at hy
  | cons x r ih =>
    intro y hy
    have hx := h x (by simp)
    simp only [edges, List.mem_cons] at hy
    rcases hy with rfl | rfl | hy
    · omega
    · omega
    · exact ih (good_cons.1 (good_weak hg (by omega : (-1 : Int) ≤ -1)) |>.2.2.2 |> fun g => good_weak g (by omega)) (fun z hz => h z (by simp [hz])) y hy
theorem tmod_twice (x size : Int) (h : 1 ≤ size) : -size < x.tmod size ∧ x.tmod size < size ∧ (x.tmod size + size).tmod size = x % size := by
  have a := Int.tmod_lt_of_pos x (show 0 < size by omega)
  have b := Int.lt_tmod_of_pos x (show 0 < size by omega)
  refine ⟨b, a, ?_⟩
  rw [Int.tmod_eq_emod_of_nonneg (by omega), Int.add_emod_right, Int.tmod_def, Int.sub_mul_emod_self_left]
/-- numbers that lie at a -/
def Ints (w : World) (a : Option Addr) (zs : List Int) : Prop := zs = [] ∨ ∃ g, a = some ⟨g, 0, none⟩ ∧ ∀ i, i < zs.length → w.cell? ⟨g, i, none⟩ = some (.int .i64 (zs.getD i 0))
theorem OwnI.ints {w : World} {B : Nat} {v : Value} {l : List Int} (h : OwnI w B v l) : ∃ a cap, v = .slice a l.length cap ∧ Ints w a l := by
  rcases h.form with ⟨rfl, rfl⟩ | ⟨g, cap, rfl, _⟩
  · exact ⟨none, 0, rfl, .inl rfl⟩
  · exact ⟨_, cap, rfl, .inr ⟨g, rfl, fun i hi => h.cell i hi⟩⟩
theorem Ints.grow {w w' : World} {a : Option Addr} {zs : List Int} {row : Option Nat} (h : Ints w a zs) (hg : w.grownBy w' row) (hd : ∀ g, a = some ⟨g, 0, none⟩ → some g ≠ row) : Ints w' a zs := by
  rcases h with h | ⟨g, rfl, h⟩
  · exact .inl h
  · exact .inr ⟨g, rfl, fun i hi => hg.cell (h i hi) (hd g rfl)⟩
theorem Ints.below {w w' : World} {a : Option Addr} {zs : List Int} (h : Ints w a zs) (hb : Below w.heap.size w w') : Ints w' a zs := by
  rcases h with h | ⟨g, rfl, h⟩
  · exact .inl h
  · exact .inr ⟨g, rfl, fun i hi => (hb.cell (World.block_lt_of_cell? _ _ (h i hi))).trans (h i hi)⟩
theorem int_snoc (l : List Int) (k : Nat) (h : k < l.length) : l.take (k + 1) = l.take k ++ [l.getD k 0] := by
  rw [List.take_succ_eq_append_getElem h]; simp [List.getD, h]
theorem OwnI.base {w : World} {B C : Nat} {v : Value} {l : List Int} (h : OwnI w B v l) (hC : C ≤ B) : OwnI w C v l := by
  refine ⟨h.1, ?_⟩
  rcases h.2 with h0 | ⟨g, cap, cur, h1, h2, h3⟩
  · exact .inl h0
  · exact .inr ⟨g, cap, cur, h1, by omega, h3⟩
set_option maxRecDepth 20000 in
set_option maxHeartbeats 1000000 in
theorem sedges_any (size n : Int) (a : Option Addr) (cap : Nat) (l : List Sp) (w : World) (hr : Sps w a l) (hk : chk size l = 0) (n1 : 0 ≤ n) (n2 : n ≤ 549755813888) :
    Calls Try.prog 60 #[.agg #[.int .i64 size, .slice a l.length cap], .int .i64 n] w fun e w' => (∃ v, e = .returned v ∧ OwnI w' w.heap.size v (sedges size n (edges l))) ∧ Below w.heap.size w w' := by
  obtain ⟨i0, hi, hz0, hz1, hz2⟩ := info_parts infoInt
  have Hi := hid hi
  have Hz0 := hid hz0
  have Hz1 := hid hz1
  have Hz2 := hid hz2
  obtain ⟨s1, s2, s3, s4⟩ := chk_zero hk
  have HG := hid (edges_bd s4)
  have HR := hid hr
  clear hi hz0 hz1 hz2 hk hr s4
  go_enter Try.func60, Try.ntmps60
  go_wp2_with fail
  have hb0 : Below w.heap.size w (((w.alloc (.cells #[.int .i64 size, .slice a l.length cap] 26)).alloc (.cells #[.int .i64 0] 3)).alloc (.cells #[.slice a l.length cap] 24)) := by go_grown
  have c0 : (((w.alloc (.cells #[.int .i64 size, .slice a l.length cap] 26)).alloc (.cells #[.int .i64 0] 3)).alloc (.cells #[.slice a l.length cap] 24)).cell? ⟨w.heap.size, 0, none⟩ = some (.int .i64 size) := (World.cell?_alloc_lt _ _ _ (by simp; omega)).trans ((World.cell?_alloc_lt _ _ _ (by simp)).trans (World.cell?_alloc_at _ _ _ _ rfl))
  have ho0 : OwnI (((w.alloc (.cells #[.int .i64 size, .slice a l.length cap] 26)).alloc (.cells #[.int .i64 0] 3)).alloc (.cells #[.slice a l.length cap] 24)) (w.heap.size + 1) (.slice (some ⟨w.heap.size + 1, 0, none⟩) 1 1) (sedges size n []) := by
    have := World.ownsRow_lit (base := w.heap.size + 1) (e := 3) (size := 1) (w.alloc (.cells #[.int .i64 size, .slice a l.length cap] 26)) #[.int .i64 0] 1 (by simp) (by unfold maxLen; omega) rfl
    have := World.ownsRow.alloc this (.cells #[.slice a l.length cap] 24)
    simpa [OwnI, sedges] using this
  have hl0 : Lists (((w.alloc (.cells #[.int .i64 size, .slice a l.length cap] 26)).alloc (.cells #[.int .i64 0] 3)).alloc (.cells #[.slice a l.length cap] 24)) (w.heap.size + 1 + 1) [(a, cap, l)] := by
    intro i x hx
    match i, hx with
    | 0, hx => simp at hx; subst hx; exact ⟨World.cell?_alloc_at _ _ _ _ (by simp), HR.out.below hb0 (Nat.le_refl _)⟩
    | i + 1, hx => simp at hx
  have hsz0 : (((w.alloc (.cells #[.int .i64 size, .slice a l.length cap] 26)).alloc (.cells #[.int .i64 0] 3)).alloc (.cells #[.slice a l.length cap] 24)).heap.size = w.heap.size + 3 := by simp
  generalize ((w.alloc (.cells #[.int .i64 size, .slice a l.length cap] 26)).alloc (.cells #[.int .i64 0] 3)).alloc (.cells #[.slice a l.length cap] 24) = V at *
  have hE := edgesOf_any (w.heap.size + 1 + 1) 1 [(a, cap, l)] V hl0 (by simp [allOf]; omega) (by simp)
  rw [show allOf [(a, cap, l)] = l by simp [allOf]] at hE
  simp only [List.length_singleton] at hE
  refine hE.mono ?_
  clear hE
  rintro e w1 ⟨⟨v1, rfl, ho1⟩, b1⟩
  obtain ⟨a1, d1, rfl, hi1⟩ := ho1.ints
  have hdis : ∀ g, a1 = some ⟨g, 0, none⟩ → V.heap.size ≤ g ∧ g < w1.heap.size := by
    intro g hg
    rcases ho1.form with ⟨e, _⟩ | ⟨g', cp, e, h1, h2, _⟩
    · simp only [Value.slice.injEq] at e; rw [hg] at e; simp at e
    · simp only [Value.slice.injEq] at e; rw [hg] at e; simp at e; omega
  have c1 := (b1.cell (World.block_lt_of_cell? _ _ c0)).trans c0
  have HC1 := hid c1
  have HO1 := hid (OwnI.below ho0 b1 (Nat.le_refl _))
  have HI1 := hid hi1
  have HD1 := hid hdis
  have HB1 := hid (bel_of hb0 b1)
  have hlen : (edges l).length ≤ 400 := by rw [edges_length]; omega
  have hs1 : w.heap.size + 3 ≤ w1.heap.size := by have := b1.size; omega
  clear hb0 c0 ho0 hl0 b1 ho1 hi1 hdis
  generalize hzs : edges l = zs at *
  have HZ := hid hzs
  clear hzs
  go_wp2_with fail
  clear c1
  go_loopw [5, 14] (fun v5 v14 wr => ∃ k : Nat, k ≤ zs.length ∧ v14 = .int .i64 k ∧ OwnI wr (w.heap.size + 1) v5 (sedges size n (zs.take k)) ∧ Ints wr a1 zs ∧ (∀ g, a1 = some ⟨g, 0, none⟩ → some g ≠ v5.ownBlock ∧ g < wr.heap.size) ∧ w.heap.size + 3 ≤ wr.heap.size ∧ wr.cell? ⟨w.heap.size, 0, none⟩ = some (.int .i64 size) ∧ Below w.heap.size w wr) (fun _ v14 _ => zs.length - (intOf v14).toNat)
  case atStart => exact ⟨0, by omega, rfl, by simpa using HO1.out, HI1.out, fun g hg => ⟨by have := (HD1.out g hg).1; simp [Value.ownBlock]; omega, (HD1.out g hg).2⟩, hs1, HC1.out, HB1.out⟩
  case round =>
    obtain ⟨k, hk, rfl, ho, hi, hdis, hsz, hc, hb⟩ := hrel
    have HO := hid ho
    have HIn := hid hi
    have HD := hid hdis
    have HB := hid hb
    obtain ⟨p5, n5, q5, hv5⟩ := ho.slice
    subst hv5
    have hln := sedges_len size n (zs.take k)
    rw [List.length_take] at hln
    by_cases hlt : k < zs.length
    · rcases hi with rfl | ⟨g1, rfl, hcl⟩
      · simp at hlt
      have d1 := hcl k hlt
      have hne1 := (hdis g1 rfl).1
      have hne0 : some w.heap.size ≠ Value.ownBlock (.slice p5 n5 q5) := by
        intro e
        have := (World.ownsRow.lt HO.out _ e.symm).1
        omega
      have hge := HG.out (zs.getD k 0) (by simp [List.getD, hlt])
      have hd := int_snoc zs k hlt
      generalize zs.getD k 0 = e at d1 hge hd
      obtain ⟨e1, e2⟩ := hge
      have HE := hid (show sedges size n (zs.take (k + 1)) = sedges size n (zs.take k) ++ [e % size, (e - n) % size] by rw [hd, sedges_snoc])
      clear hd ho hdis hb hcl
      have k2 : (sedges size n (zs.take k)).length + 2 ≤ maxLen := by unfold maxLen; omega
      have k3 : ((sedges size n (zs.take k)).length + 2) * 8 ≤ 140737488355328 := by omega
      clear hln
      generalize sedges size n (zs.take k) = Z at *
      obtain ⟨m1, m2, m3⟩ := tmod_twice (e - n) size s1
      have m4 : e.tmod size = e % size := Int.tmod_eq_emod_of_nonneg e1
      have m5 := Int.emod_nonneg e (show size ≠ 0 by omega)
      have m6 := Int.emod_lt_of_pos e (show 0 < size by omega)
      have m7 := Int.emod_nonneg (e - n) (show size ≠ 0 by omega)
      have m8 := Int.emod_lt_of_pos (e - n) (show 0 < size by omega)
      have w1 : IntKind.i64.wrap (e - n) = e - n := IntWalk.i64_in _ (by omega)
      have hz1 : ¬ size = 0 := by omega
      have hz2 : (size == 0) = false := by simp [hz1]
      generalize e % size = X at *
      generalize (e - n) % size = Y at *
      generalize hR : (e - n).tmod size = R at *
      have w2 : IntKind.i64.wrap (R + size) = R + size := IntWalk.i64_in _ (by omega)
      have w3 : IntKind.i64.wrap X = X := IntWalk.i64_in _ (by omega)
      have w4 : IntKind.i64.wrap Y = Y := IntWalk.i64_in _ (by omega)
      have w5 : IntKind.i64.wrap R = R := IntWalk.i64_in _ (by omega)
      have hg1 : g1 < wr.heap.size := World.block_lt_of_cell? _ _ d1
      go_wp2_with fail
      have k1 : ∀ u ∈ ([.int .i64 X, .int .i64 Y] : List Value), u.oneCell' = true := by intro u hu; simp at hu; rcases hu with rfl | rfl <;> rfl
      have hown3 := World.ownsRow.drew (World.ownsRow.alloc HO.out (.cells #[.int .i64 X, .int .i64 Y] 3))
      have hnews : ∀ (j : Nat) (u : Value), ([.int .i64 X, .int .i64 Y] : List Value)[j]? = some u → (wr.alloc (.cells #[.int .i64 X, .int .i64 Y] 3)).drew.cell? ((⟨wr.heap.size, 0, none⟩ : Addr).add j) = some u := World.news_of_block (heap_alloc_new wr (.cells #[.int .i64 X, .int .i64 Y] 3))
      have nc : (wr.alloc (.cells #[.int .i64 X, .int .i64 Y] 3)).drew.cell? ⟨w.heap.size, 0, none⟩ = some (.int .i64 size) := Lib.cell?_alloc_some _ hc
      have hs4 : (wr.alloc (.cells #[.int .i64 X, .int .i64 Y] 3)).drew.heap.size = wr.heap.size + 1 := by simp
      have hs5 : w.heap.size + 1 ≤ (wr.alloc (.cells #[.int .i64 X, .int .i64 Y] 3)).drew.heap.size := by rw [hs4]; omega
      go_region_held3 (fun W => W.cell? ⟨w.heap.size, 0, none⟩ = some (.int .i64 size)) (go_keep)
        (first | (refine step_append_lies _ (by rfl) _ _ _ (by rfl) (w.heap.size + 1) 3 i0 (.int .i64 0) 1 8 Try.underlying23 Hi.out Hz0.out Hz1.out Hz2.out rfl (by decide) _ Z.length (Z.map (Value.int .i64)) (by rfl) hown3 ⟨wr.heap.size, 0, none⟩ 2 2 [.int .i64 X, .int .i64 Y] (by rfl) (by simp) hnews k1 (by decide) k2 k3 hs5 (wr.heap.size + 1) hs4 ?_
                  intro g4 cp w7 hown hgrow hat hlt7
                  have y0 := hgrow.cell (a := ⟨w.heap.size, 0, none⟩) nc hne0))
      have HO7 : Hid (OwnI w7 (w.heap.size + 1) (.slice (some ⟨g4, 0, none⟩) (Z.length + 2) cp) (Z ++ [X, Y])) := by
        show w7.ownsRow _ _ _ _ _ _
        simpa using hown
      have HB7 := hid (HB.out.trans (Below.grown (Below.drew (Below.alloc (Below.refl w.heap.size wr) (by omega) (.cells #[.int .i64 X, .int .i64 Y] 3))) hgrow (by rw [hs4]; omega) (fun k hk => by have := (World.ownsRow.lt HO.out k hk).1; omega)))
      have HI7 := hid ((HIn.out.below (Below.drew (Below.alloc (Below.refl wr.heap.size wr) (Nat.le_refl _) (.cells #[.int .i64 X, .int .i64 Y] 3)))).grow hgrow (fun g hg => (HD.out g hg).1))
      have hs7 := hgrow.size
      rw [hs4] at hs7
      have HD7 : Hid (∀ g, some (⟨g1, 0, none⟩ : Addr) = some ⟨g, 0, none⟩ → some g ≠ Value.ownBlock (.slice (some ⟨g4, 0, none⟩) (Z.length + 2) cp) ∧ g < w7.heap.size) := by
        intro g hg
        simp at hg
        subst hg
        refine ⟨?_, by omega⟩
        rcases hat with h | h
        · rw [h] at hne1
          simpa [Value.ownBlock] using hne1
        · simp [Value.ownBlock]; omega
      clear hown hgrow hat hnews hown3 nc
      go_wp2_with fail
      go_roundw
      case rel => exact ⟨k + 1, by omega, by go_num, by rw [HE.out]; exact HO7.out, HI7.out, HD7.out, by omega, y0, HB7.out⟩
      case measure => simp [intOf]; omega
    · have he : zs.take k = zs := List.take_of_length_le (by omega)
      rw [he] at HO
      clear ho hb hi
      go_wp2_with fail
      go_ret
      refine ⟨⟨_, rfl, ?_⟩, HB.out⟩
      rw [HZ.out]
      exact HO.out.base (show w.heap.size ≤ w.heap.size + 1 by omega)
end SpanC
end Go.Proofs.Ytnbfadfhpegddaa

/- Contract of package dutyref: SupplyBounds. -/
set_option linter.unusedVariables false
namespace Go.Proofs.Ytnbfadfhpegddaa
open Go.RowKit Go.Shelf
open SpanM SupM
namespace SpanC
def zmin (f : Int → Int) (a : Int) (l : List Int) : Int := l.foldl (fun a x => min a (f x)) a
def zmax (f : Int → Int) (a : Int) (l : List Int) : Int := l.foldl (fun a x => max a (f x)) a
theorem zmin_snoc (f : Int → Int) (a : Int) (l : List Int) (x : Int) : zmin f a (l ++ [x]) = min (zmin f a l) (f x) := by simp [zmin]
theorem zmax_snoc (f : Int → Int) (a : Int) (l : List Int) (x : Int) : zmax f a (l ++ [x]) = max (zmax f a l) (f x) := by simp [zmax]
theorem zmin_le (f : Int → Int) (a : Int) (l : List Int) : zmin f a l ≤ a ∧ (∀ x ∈ l, zmin f a l ≤ f x) ∧ (zmin f a l = a ∨ ∃ x ∈ l, zmin f a l = f x) := by
  induction l generalizing a with
  | nil => simp [zmin]
  | cons y r ih =>
    obtain ⟨h1, h2, h3⟩ := ih (min a (f y))
    have e : zmin f a (y :: r) = zmin f (min a (f y)) r := rfl
    rw [e]
    refine ⟨by omega, fun x hx => ?_, ?_⟩
    · rcases List.mem_cons.1 hx with rfl | hx
      · omega
      · exact h2 x hx
    · rcases h3 with h3 | ⟨x, hx, h3⟩
      · by_cases c : a ≤ f y
        · left; omega
        · right; exact ⟨y, by simp, by omega⟩
      · right; exact ⟨x, by simp [hx], h3⟩
theorem zmax_le (f : Int → Int) (a : Int) (l : List Int) : a ≤ zmax f a l ∧ (∀ x ∈ l, f x ≤ zmax f a l) ∧ (zmax f a l = a ∨ ∃ x ∈ l, zmax f a l = f x) := by
  induction l generalizing a with
  | nil => simp [zmax]
  | cons y r ih =>
    obtain ⟨h1, h2, h3⟩ := ih (max a (f y))
    have e : zmax f a (y :: r) = zmax f (max a (f y)) r := rfl
    rw [e]
    refine ⟨by omega, fun x hx => ?_, ?_⟩
    · rcases List.mem_cons.1 hx with rfl | hx
      · omega
      · exact h2 x hx
    · rcases h3 with h3 | ⟨x, hx, h3⟩
      · by_cases c : f y ≤ a
        · left; omega
        · right; exact ⟨y, by simp, by omega⟩
      · right; exact ⟨x, by simp [hx], h3⟩
theorem sedges_mem {size n : Int} {l : List Sp} (hs : 1 ≤ size) : (∀ t ∈ sedges size n (edges l), 0 ≤ t ∧ t < size) ∧ 0 ∈ sedges size n (edges l) ∧ ∀ x ∈ l, x.1 % size ∈ sedges size n (edges l) ∧ x.2 % size ∈ sedges size n (edges l) := by
  refine ⟨fun t ht => ?_, by simp [sedges], fun x hx => ?_⟩
  · simp only [sedges, List.mem_cons, List.mem_flatMap] at ht
    rcases ht with rfl | ⟨e, _, h⟩
    · omega
    · have m5 := Int.emod_nonneg e (show size ≠ 0 by omega)
      have m6 := Int.emod_lt_of_pos e (show 0 < size by omega)
      have m7 := Int.emod_nonneg (e - n) (show size ≠ 0 by omega)
      have m8 := Int.emod_lt_of_pos (e - n) (show 0 < size by omega)
      simp at h
      rcases h with rfl | rfl <;> omega
  · obtain ⟨h1, h2⟩ := mem_edges hx
    constructor
    · simp only [sedges, List.mem_cons, List.mem_flatMap]
      exact .inr ⟨_, h1, by simp⟩
    · simp only [sedges, List.mem_cons, List.mem_flatMap]
      exact .inr ⟨_, h2, by simp⟩
theorem zmin_P {size n : Int} {l : List Sp} (hs : 1 ≤ size) (hg : good size (-1) l = true) (hn : 0 ≤ n) : LeastP size l n (zmin (D size l n) n (sedges size n (edges l))) := by
  obtain ⟨h1, h2, h3⟩ := zmin_le (D size l n) n (sedges size n (edges l))
  obtain ⟨m1, m2, m3⟩ := sedges_mem (n := n) (l := l) hs
  refine ⟨fun t ht => ?_, ?_⟩
  · rcases least_ex hs hg hn t with h | ⟨x, hx, h⟩
    · have := h2 0 m2; omega
    · have := h2 _ (m3 x hx).2
      rw [D_mod hs] at this
      omega
  · rcases h3 with h3 | ⟨x, hx, h3⟩
    · have a := h2 0 m2
      have b := (D_bd (l := l) hs hg hn (Int.le_refl 0)).2
      exact ⟨0, Int.le_refl _, by omega⟩
    · exact ⟨x, (m1 x hx).1, h3⟩
theorem zmax_P {size n : Int} {l : List Sp} (hs : 1 ≤ size) (hg : good size (-1) l = true) (hn : 0 ≤ n) : MostP size l n (zmax (D size l n) 0 (sedges size n (edges l))) := by
  obtain ⟨h1, h2, h3⟩ := zmax_le (D size l n) 0 (sedges size n (edges l))
  obtain ⟨m1, m2, m3⟩ := sedges_mem (n := n) (l := l) hs
  refine ⟨fun t ht => ?_, ?_⟩
  · by_cases hl : l = []
    · subst hl; rw [D_none]; omega
    · obtain ⟨x, hx, h⟩ := most_ex hs hg hn hl t
      have := h2 _ (m3 x hx).1
      rw [D_mod hs] at this
      omega
  · rcases h3 with h3 | ⟨x, hx, h3⟩
    · have a := h2 0 m2
      have b := (D_bd (l := l) hs hg hn (Int.le_refl 0)).1
      exact ⟨0, Int.le_refl _, by omega⟩
    · exact ⟨x, (m1 x hx).1, h3⟩
set_option maxHeartbeats 1000000 in
theorem rbounds_any (size n : Int) (a : Option Addr) (cap : Nat) (l : List Sp) (w : World) (hr : Sps w a l) (hk : chk size l = 0) (n1 : 0 ≤ n) (n2 : n ≤ 549755813888) :
    Calls Try.prog 52 #[.agg #[.int .i64 size, .slice a l.length cap], .int .i64 n] w fun e w' => e = .returned (.tuple #[.int .i64 (zmin (D size l n) n (sedges size n (edges l))), .int .i64 (zmax (D size l n) 0 (sedges size n (edges l)))]) ∧ Below w.heap.size w w' := by
  obtain ⟨s1, s2, s3, s4⟩ := chk_zero hk
  have HS := hid (fun W (h : Below w.heap.size w W) => sedges_any size n a cap l W (hr.below h (Nat.le_refl _)) hk n1 n2)
  have HC := hid (fun t (t1 : 0 ≤ t) (t2 : t ≤ 2199023255552) W (h : Below w.heap.size w W) => countOf_any size t a cap l W (hr.below h (Nat.le_refl _)) hk t1 t2)
  have HM := hid (sedges_mem (n := n) (l := l) s1).1
  have HG := hid s4
  clear hr hk s4
  have hzl : (sedges size n (edges l)).length ≤ 1000 := by rw [sedges_len, edges_length]; omega
  generalize hzs : sedges size n (edges l) = zs at *
  clear hzs
  go_enter Try.func52, Try.ntmps52
  go_wp2_with fail
  refine (HS.out _ (by go_grown)).mono ?_
  rintro e w1 ⟨⟨v1, rfl, ho1⟩, b1⟩
  obtain ⟨a1, d1, rfl, hi1⟩ := ho1.ints
  have HB1 : Hid (Below (w.heap.size + 1) (w.alloc (.cells #[.int .i64 size, .slice a l.length cap] 26)) w1) := box1 b1
  have HI1 := hid hi1
  clear b1 ho1 hi1
  go_wp2_with fail
  go_loopw [6, 7, 16] (fun v6 v7 v16 wr => ∃ k : Nat, k ≤ zs.length ∧ v16 = .int .i64 k ∧ (∃ A M, v6 = .int .i64 A ∧ v7 = .int .i64 M ∧ Hid (zmin (D size l n) n (zs.take k) = A ∧ zmax (D size l n) 0 (zs.take k) = M)) ∧ Ints wr a1 zs ∧ Below (w.heap.size + 1) (w.alloc (.cells #[.int .i64 size, .slice a l.length cap] 26)) wr) (fun _ _ v16 _ => zs.length - (intOf v16).toNat)
  case atStart => exact ⟨0, by omega, rfl, ⟨_, _, rfl, rfl, ⟨by simp [zmin], by simp [zmax]⟩⟩, HI1.out, HB1.out⟩
  case round =>
    obtain ⟨k, hk, rfl, ⟨A, M, rfl, rfl, HAM⟩, hi, hb⟩ := hrel
    have HIn := hid hi
    have HB := hid hb
    by_cases hlt : k < zs.length
    · rcases hi with rfl | ⟨g1, rfl, hcl⟩
      · simp at hlt
      have d1 := hcl k hlt
      have hge := HM.out (zs.getD k 0) (by simp [List.getD, hlt])
      have hd := int_snoc zs k hlt
      generalize zs.getD k 0 = t at d1 hge hd
      obtain ⟨t1, t2⟩ := hge
      have HN := hid (show zmin (D size l n) n (zs.take (k + 1)) = min A (cb size l (t + n) - cb size l t) ∧ zmax (D size l n) 0 (zs.take (k + 1)) = max M (cb size l (t + n) - cb size l t) by
        rw [hd, zmin_snoc, zmax_snoc, HAM.out.1, HAM.out.2]; exact ⟨rfl, rfl⟩)
      obtain ⟨r1, r2⟩ := cb_pos s1 HG.out (show 0 ≤ t + n by omega)
      obtain ⟨r3, r4⟩ := cb_pos s1 HG.out t1
      have p0 := BelowOf.cell (show wr.cell? ⟨w.heap.size, 0, none⟩ = some (.int .i64 size) from boxc hb 0)
      have p1 := BelowOf.cell (show wr.cell? ⟨w.heap.size, 1, none⟩ = some (.slice a l.length cap) from boxc hb 1)
      clear hd hcl hb HAM
      go_wp2_with fail
      refine wp_region_quiet_below (by kernel_rfl) (by kernel_rfl) ?_
      repeat (first | go_big_quiet_step (first | (go_at_call 61; rename_i pp; refine Calls.below_of pp (HC.out _ (by omega) (by omega) _ (bel_of (of_alloc HB.out) pp.hb)))) | quiet_step (first | (go_at_call 61; rename_i pp; refine Calls.below_of pp (HC.out _ (by omega) (by omega) _ (bel_of (of_alloc HB.out) pp.hb)))))
      refine wpQuiet_nil ?_
      rintro w5 ⟨pp, hpp⟩
      have b5 := pp.hb
      rw [← hpp] at b5
      have HB5 := hid (box2 HB.out b5)
      have HI5 := hid (HIn.out.below b5)
      clear hpp pp p0 p1 b5
      go_wp2_with fail
      go_roundw
      case rel => exact ⟨k + 1, by omega, by go_num, ⟨_, _, rfl, rfl, by first | exact HN.out | (refine ⟨HN.out.1.trans ?_, HN.out.2.trans ?_⟩ <;> omega)⟩, HI5.out, HB5.out⟩
      case measure => simp [intOf]; omega
    · have he : zs.take k = zs := List.take_of_length_le (by omega)
      rw [he] at HAM
      clear hi hb
      have HF := hid HAM.out
      go_wp2_with fail
      go_ret2
      rw [HF.out.1, HF.out.2]
      exact ⟨rfl, of_alloc HB.out⟩
end SpanC
end Go.Proofs.Ytnbfadfhpegddaa
