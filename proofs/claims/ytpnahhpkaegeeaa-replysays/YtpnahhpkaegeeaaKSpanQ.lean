/- Several texts, one behind the other: SpanQ. -/
import Derived.Test.YtpnahhpkaegeeaaPkM
import Derived.Lib.SlicesCompact
/- Plain mathematics of edges: sorted and without doubles; a set by its edges. -/
set_option linter.unusedVariables false
namespace Go.Proofs.Ytpnahhpkaegeeaa
open SpanM
namespace SpanM
/-- the edges of spans -/
def edges : List Sp → List Int
  | [] => []
  | x :: r => x.1 :: x.2 :: edges r
theorem edges_append (l m : List Sp) : edges (l ++ m) = edges l ++ edges m := by
  induction l with
  | nil => rfl
  | cons x r ih => simp [edges, ih]
theorem edges_length (l : List Sp) : (edges l).length = l.length * 2 := by
  induction l with
  | nil => rfl
  | cons x r ih => simp only [edges, List.length_cons, ih]; omega
theorem mem_edges {l : List Sp} {x : Sp} (h : x ∈ l) : x.1 ∈ edges l ∧ x.2 ∈ edges l := by
  induction l with
  | nil => simp at h
  | cons y r ih =>
    rcases List.mem_cons.1 h with rfl | h
    · simp [edges]
    · have := ih h; simp [edges, this]
/-- between edges nothing changes -/
theorem mem_same {l : List Sp} {c u : Int} (hcu : c ≤ u) (h : ∀ y ∈ edges l, y ≤ c ∨ u < y) : mem l u = mem l c := by
  rw [Bool.eq_iff_iff, mem_iff, mem_iff]
  constructor
  · rintro ⟨x, hx, h1, h2⟩
    have a := h x.1 (mem_edges hx).1
    exact ⟨x, hx, by omega, by omega⟩
  · rintro ⟨x, hx, h1, h2⟩
    have a := h x.2 (mem_edges hx).2
    exact ⟨x, hx, by omega, by omega⟩

/-- what a list of edges is, sorted and without doubles -/
def tidy (zs : List Int) : List Int := Lib.compact (zs.mergeSort fun x y => decide (x ≤ y))
theorem sorted_le (zs : List Int) (i j : Nat) (hij : i ≤ j) (hj : j < (zs.mergeSort fun x y => decide (x ≤ y)).length) : (zs.mergeSort fun x y => decide (x ≤ y)).toArray[i]! ≤ (zs.mergeSort fun x y => decide (x ≤ y)).toArray[j]! := by
  have hp := List.pairwise_mergeSort (le := fun x y : Int => decide (x ≤ y)) (fun a b c h1 h2 => by simp at *; omega) (fun a b => by simp; omega) zs
  generalize zs.mergeSort (fun x y => decide (x ≤ y)) = s at *
  rcases Nat.eq_or_lt_of_le hij with rfl | hlt
  · exact Int.le_refl _
  · have := List.pairwise_iff_getElem.1 hp i j (by omega) hj hlt
    simpa [show i < s.length by omega, hj] using this
theorem keeps_iff (d : Array Int) (j : Nat) : Lib.keeps d j = true ↔ (j = 0 ∨ d[j]! ≠ d[j - 1]!) := by
  unfold Lib.keeps
  simp
theorem tidy_mem (zs : List Int) (x : Int) : x ∈ tidy zs ↔ x ∈ zs := by
  unfold tidy Lib.compact Lib.compactUpTo
  have hm : ∀ y, y ∈ zs.mergeSort (fun x y => decide (x ≤ y)) ↔ y ∈ zs := fun y => List.mem_mergeSort
  rw [← hm x]
  generalize zs.mergeSort (fun x y => decide (x ≤ y)) = s at *
  constructor
  · intro h
    obtain ⟨j, hj, rfl⟩ := List.mem_map.1 h
    have hj' := List.mem_range.1 (List.mem_filter.1 hj).1
    have : s.toArray[j]! = s[j] := by simp [hj']
    rw [this]
    exact List.getElem_mem hj'
  · intro h
    obtain ⟨j, hj, rfl⟩ := List.mem_iff_getElem.1 h
    have key : ∀ j, j < s.length → ∃ i, i < s.length ∧ Lib.keeps s.toArray i = true ∧ s.toArray[i]! = s.toArray[j]! := by
      intro j
      induction j with
      | zero => intro h; exact ⟨0, h, (keeps_iff _ _).2 (.inl rfl), rfl⟩
      | succ j ih =>
        intro h
        by_cases hk : Lib.keeps s.toArray (j + 1) = true
        · exact ⟨j + 1, h, hk, rfl⟩
        · have : s.toArray[j + 1]! = s.toArray[j]! := by
            rw [keeps_iff] at hk
            have := not_or.1 hk
            simpa using this.2
          obtain ⟨i, h1, h2, h3⟩ := ih (by omega)
          exact ⟨i, h1, h2, by rw [h3, this]⟩
    obtain ⟨i, h1, h2, h3⟩ := key j hj
    refine List.mem_map.2 ⟨i, List.mem_filter.2 ⟨List.mem_range.2 h1, h2⟩, ?_⟩
    rw [h3]; simp [hj]
theorem tidy_lt (zs : List Int) : (tidy zs).Pairwise (· < ·) := by
  have hs := sorted_le zs
  unfold tidy Lib.compact Lib.compactUpTo
  generalize zs.mergeSort (fun x y => decide (x ≤ y)) = s at *
  rw [List.pairwise_map]
  refine List.Pairwise.imp_of_mem (R := (· < ·)) ?_ (List.Pairwise.filter _ List.pairwise_lt_range)
  intro i j hi hj hij
  have hj1 := List.mem_range.1 (List.mem_filter.1 hj).1
  have hj2 := (keeps_iff _ _).1 (List.mem_filter.1 hj).2
  rcases hj2 with rfl | hj2
  · omega
  · have a := hs i (j - 1) (by omega) (by omega)
    have b := hs (j - 1) j (by omega) hj1
    have c : s.toArray[j - 1]! ≠ s.toArray[j]! := fun e => hj2 e.symm
    omega
theorem tidy_len (zs : List Int) : (tidy zs).length ≤ zs.length := by
  unfold tidy Lib.compact Lib.compactUpTo
  rw [List.length_map]
  refine Nat.le_trans (List.length_filter_le _ _) ?_
  rw [List.length_range, List.length_mergeSort]
  exact Nat.le_refl _

/-- what is known of edges, and of what is asked of times -/
structure Edg (size : Int) (p : Int → Bool) (E : List Int) : Prop where
  asc : E.Pairwise (· < ·)
  zero : (0 : Int) ∈ E
  last : size ∈ E
  pos : 1 ≤ size
  same : ∀ c u, 0 ≤ c → c ≤ u → u < size → (∀ y ∈ E, y ≤ c ∨ u < y) → p u = p c
/-- what is told so far, behind k edges -/
def Sinv (size : Int) (p : Int → Bool) (E : List Int) (k : Nat) (acc : List Sp) (on : Bool) : Prop :=
  (acc = [] ∧ on = false ∧ ∀ y ∈ E.take k, y < 0) ∨
  ∃ cur, 0 ≤ cur ∧ cur ≤ size ∧ cur ∈ E.take k ∧ (∀ y ∈ E.take k, y ≤ cur ∨ size < y) ∧ on = (decide (cur < size) && p cur) ∧
    ((on = false ∧ good size (-1) acc = true ∧ lastEnd (-1) acc ≤ cur ∧ ∀ u, mem acc u = (decide (0 ≤ u ∧ u < cur) && p u)) ∨
     (on = true ∧ ∃ l f, acc = l ++ [(f, 0)] ∧ good size (-1) l = true ∧ lastEnd (-1) l < f ∧ 0 ≤ f ∧ f ≤ cur ∧ ∀ u, (mem l u || decide (f ≤ u ∧ u < cur)) = (decide (0 ≤ u ∧ u < cur) && p u)))
theorem Sinv.start (size : Int) (p : Int → Bool) (E : List Int) : Sinv size p E 0 [] false := .inl ⟨rfl, rfl, by simp⟩
theorem asc_take {E : List Int} (h : E.Pairwise (· < ·)) {k : Nat} {t : Int} (hk : E[k]? = some t) : (∀ y ∈ E.take k, y < t) ∧ (∀ y ∈ E.drop k, t ≤ y) ∧ E.take (k + 1) = E.take k ++ [t] := by
  obtain ⟨hlt, rfl⟩ := List.getElem?_eq_some_iff.1 hk
  have hsp : E = E.take k ++ E.drop k := (List.take_append_drop k E).symm
  have hdr : E.drop k = E[k] :: E.drop (k + 1) := List.drop_eq_getElem_cons hlt
  have h' := h
  rw [hsp, List.pairwise_append] at h'
  obtain ⟨_, h2, h3⟩ := h'
  rw [hdr] at h2
  refine ⟨fun y hy => ?_, fun y hy => ?_, List.take_succ_eq_append_getElem hlt⟩
  · exact h3 y hy E[k] (by rw [hdr]; exact List.mem_cons_self)
  · rw [hdr] at hy
    rcases List.mem_cons.1 hy with rfl | hy
    · exact Int.le_refl _
    · have := (List.pairwise_cons.1 h2).1 y hy
      have : E[k] < y := by simpa using this
      omega
theorem mem_split {E : List Int} (k : Nat) {y : Int} (h : y ∈ E) : y ∈ E.take k ∨ y ∈ E.drop k := by
  rw [← List.take_append_drop k E] at h
  exact List.mem_append.1 h
theorem Sinv.skip {size : Int} {p : Int → Bool} {E : List Int} {k : Nat} {acc : List Sp} {on : Bool} {t : Int} (hE : Edg size p E) (h : Sinv size p E k acc on) (hk : E[k]? = some t) (ht : ¬ (0 ≤ t ∧ t ≤ size)) : Sinv size p E (k + 1) acc on := by
  obtain ⟨a1, a2, a3⟩ := asc_take hE.asc hk
  have hp := hE.pos
  rcases h with ⟨h1, h2, h3⟩ | ⟨cur, c1, c2, c3, c4, c5, c6⟩
  · refine .inl ⟨h1, h2, fun y hy => ?_⟩
    rw [a3] at hy
    rcases List.mem_append.1 hy with hy | hy
    · exact h3 y hy
    · simp at hy
      subst hy
      rcases mem_split k hE.zero with h0 | h0
      · have := h3 0 h0; omega
      · have := a2 0 h0; omega
  · have := a1 cur c3
    refine .inr ⟨cur, c1, c2, by rw [a3]; exact List.mem_append.2 (.inl c3), fun y hy => ?_, c5, c6⟩
    rw [a3] at hy
    rcases List.mem_append.1 hy with hy | hy
    · exact c4 y hy
    · simp at hy; subst hy; right; omega
/-- where the next edge is, and that nothing changes up to it -/
theorem Sinv.next {size : Int} {p : Int → Bool} {E : List Int} {k : Nat} {acc : List Sp} {on : Bool} {t : Int} (hE : Edg size p E) (h : Sinv size p E k acc on) (hk : E[k]? = some t) (h0 : 0 ≤ t) (h1 : t ≤ size) :
    (t ∈ E.take (k + 1) ∧ ∀ y ∈ E.take (k + 1), y ≤ t ∨ size < y) ∧
    ((on = false ∧ good size (-1) acc = true ∧ (acc = [] ∨ lastEnd (-1) acc < t) ∧ ∀ u, mem acc u = (decide (0 ≤ u ∧ u < t) && p u)) ∨
     (on = true ∧ ∃ l f, acc = l ++ [(f, 0)] ∧ good size (-1) l = true ∧ lastEnd (-1) l < f ∧ 0 ≤ f ∧ f < t ∧ ∀ u, (mem l u || decide (f ≤ u ∧ u < t)) = (decide (0 ≤ u ∧ u < t) && p u))) := by
  obtain ⟨a1, a2, a3⟩ := asc_take hE.asc hk
  refine ⟨⟨by rw [a3]; simp, fun y hy => ?_⟩, ?_⟩
  · rw [a3] at hy
    rcases List.mem_append.1 hy with hy | hy
    · have := a1 y hy; omega
    · simp at hy; omega
  · rcases h with ⟨rfl, rfl, h3⟩ | ⟨cur, c1, c2, c3, c4, c5, c6⟩
    · left
      have ht : t = 0 := by
        rcases mem_split k hE.zero with h | h
        · have := h3 0 h; omega
        · have := a2 0 h; omega
      subst ht
      refine ⟨rfl, rfl, .inl rfl, fun u => ?_⟩
      rw [decide_eq_false (by omega)]; rfl
    · have hct := a1 cur c3
      have hcs : cur < size := by omega
      have hsame : ∀ u, cur ≤ u → u < t → p u = p cur := by
        intro u hu1 hu2
        refine hE.same cur u c1 hu1 (by omega) fun y hy => ?_
        rcases mem_split k hy with h | h
        · rcases c4 y h with h | h
          · exact .inl h
          · right; omega
        · have := a2 y h; right; omega
      rw [decide_eq_true hcs, Bool.true_and] at c5
      rcases c6 with ⟨d1, d2, d3, d4⟩ | ⟨d1, l, f, d2, d3, d4, d5, d6, d7⟩
      · left
        refine ⟨d1, d2, .inr (by omega), fun u => ?_⟩
        rw [d4 u]
        by_cases hu : u < cur
        · by_cases hu0 : 0 ≤ u
          · rw [decide_eq_true (by omega : 0 ≤ u ∧ u < cur), decide_eq_true (by omega : 0 ≤ u ∧ u < t)]
          · rw [decide_eq_false (by omega : ¬ (0 ≤ u ∧ u < cur)), decide_eq_false (by omega : ¬ (0 ≤ u ∧ u < t))]
        · rw [decide_eq_false (by omega : ¬ (0 ≤ u ∧ u < cur))]
          by_cases hu2 : u < t
          · rw [hsame u (by omega) hu2, ← c5, d1]; simp
          · rw [decide_eq_false (by omega : ¬ (0 ≤ u ∧ u < t))]
      · right
        refine ⟨d1, l, f, d2, d3, d4, d5, by omega, fun u => ?_⟩
        by_cases hu : u < cur
        · have := d7 u
          by_cases hu0 : 0 ≤ u
          · rw [decide_eq_true (by omega : 0 ≤ u ∧ u < cur)] at this
            rw [decide_eq_true (by omega : 0 ≤ u ∧ u < t), ← this]
            congr 1
            rw [Bool.eq_iff_iff]; simp only [decide_eq_true_eq]; omega
          · rw [decide_eq_false (by omega : ¬ (0 ≤ u ∧ u < cur))] at this
            rw [decide_eq_false (by omega : ¬ (0 ≤ u ∧ u < t)), Bool.false_and]
            rw [Bool.false_and] at this
            rw [decide_eq_false (by omega : ¬ (f ≤ u ∧ u < t))]
            have h2 := (Bool.or_eq_false_iff.1 this).1
            rw [h2]; rfl
        · by_cases hu2 : u < t
          · rw [hsame u (by omega) hu2, ← c5, d1, decide_eq_true (by omega : f ≤ u ∧ u < t), decide_eq_true (by omega : 0 ≤ u ∧ u < t)]; simp
          · rw [decide_eq_false (by omega : ¬ (f ≤ u ∧ u < t)), decide_eq_false (by omega : ¬ (0 ≤ u ∧ u < t))]
            have := d7 u
            rw [decide_eq_false (by omega : ¬ (f ≤ u ∧ u < cur)), decide_eq_false (by omega : ¬ (0 ≤ u ∧ u < cur))] at this
            exact this
theorem Sinv.begin {size : Int} {p : Int → Bool} {E : List Int} {k : Nat} {acc : List Sp} {t : Int} (hE : Edg size p E) (h : Sinv size p E k acc false) (hk : E[k]? = some t) (h0 : 0 ≤ t) (h1 : t < size) (hp : p t = true) : Sinv size p E (k + 1) (acc ++ [(t, 0)]) true := by
  obtain ⟨⟨e1, e2⟩, e3⟩ := h.next hE hk h0 (by omega)
  rcases e3 with ⟨_, d2, d3, d4⟩ | ⟨h, _⟩
  · refine .inr ⟨t, h0, by omega, e1, e2, by rw [hp, decide_eq_true h1]; rfl, .inr ⟨rfl, acc, t, rfl, d2, ?_, h0, Int.le_refl _, fun u => ?_⟩⟩
    · rcases d3 with rfl | d3
      · simp [lastEnd]; omega
      · exact d3
    · rw [d4 u, decide_eq_false (by omega : ¬ (t ≤ u ∧ u < t))]; simp
  · simp at h
theorem Sinv.stay {size : Int} {p : Int → Bool} {E : List Int} {k : Nat} {acc : List Sp} {t : Int} (hE : Edg size p E) (h : Sinv size p E k acc false) (hk : E[k]? = some t) (h0 : 0 ≤ t) (h1 : t ≤ size) (hp : (decide (t < size) && p t) = false) : Sinv size p E (k + 1) acc false := by
  obtain ⟨⟨e1, e2⟩, e3⟩ := h.next hE hk h0 h1
  rcases e3 with ⟨_, d2, d3, d4⟩ | ⟨h, _⟩
  · refine .inr ⟨t, h0, h1, e1, e2, hp.symm, .inl ⟨rfl, d2, ?_, d4⟩⟩
    rcases d3 with rfl | d3
    · simp [lastEnd]; omega
    · omega
  · simp at h
theorem Sinv.on {size : Int} {p : Int → Bool} {E : List Int} {k : Nat} {acc : List Sp} {t : Int} (hE : Edg size p E) (h : Sinv size p E k acc true) (hk : E[k]? = some t) (h0 : 0 ≤ t) (h1 : t < size) (hp : p t = true) : Sinv size p E (k + 1) acc true := by
  obtain ⟨⟨e1, e2⟩, e3⟩ := h.next hE hk h0 (by omega)
  rcases e3 with ⟨h, _⟩ | ⟨_, l, f, d2, d3, d4, d5, d6, d7⟩
  · simp at h
  · exact .inr ⟨t, h0, by omega, e1, e2, by rw [hp, decide_eq_true h1]; rfl, .inr ⟨rfl, l, f, d2, d3, d4, d5, by omega, d7⟩⟩
theorem Sinv.form {size : Int} {p : Int → Bool} {E : List Int} {k : Nat} {acc : List Sp} (h : Sinv size p E k acc true) : ∃ l f, acc = l ++ [(f, 0)] := by
  rcases h with ⟨_, h, _⟩ | ⟨_, _, _, _, _, _, ⟨h, _⟩ | ⟨_, l, f, h, _⟩⟩
  · simp at h
  · simp at h
  · exact ⟨l, f, h⟩
theorem Sinv.end {size : Int} {p : Int → Bool} {E : List Int} {k : Nat} {l : List Sp} {f t : Int} (hE : Edg size p E) (h : Sinv size p E k (l ++ [(f, 0)]) true) (hk : E[k]? = some t) (h0 : 0 ≤ t) (h1 : t ≤ size) (hp : (decide (t < size) && p t) = false) : Sinv size p E (k + 1) (l ++ [(f, t)]) false := by
  obtain ⟨⟨e1, e2⟩, e3⟩ := h.next hE hk h0 h1
  rcases e3 with ⟨h, _⟩ | ⟨_, l', f', d2, d3, d4, d5, d6, d7⟩
  · simp at h
  · have hl := congrArg List.dropLast d2
    have hf := congrArg List.getLast? d2
    simp at hl hf
    subst hl
    subst hf
    refine .inr ⟨t, h0, h1, e1, e2, hp.symm, .inl ⟨rfl, good_snoc.2 ⟨d3, d4, d6, h1⟩, by rw [lastEnd_snoc]; exact Int.le_refl _, fun u => ?_⟩⟩
    rw [mem_append, mem_cons, ← d7 u]
    simp only [mem_nil, Bool.or_false]
theorem Sinv.done {size : Int} {p : Int → Bool} {E : List Int} {acc : List Sp} {on : Bool} (hE : Edg size p E) (h : Sinv size p E E.length acc on) : good size (-1) acc = true ∧ ∀ u, mem acc u = (decide (0 ≤ u ∧ u < size) && p u) := by
  have hp := hE.pos
  rw [Sinv, List.take_length] at h
  rcases h with ⟨_, _, h⟩ | ⟨cur, c1, c2, c3, c4, c5, c6⟩
  · have := h 0 hE.zero; omega
  · have : cur = size := by
      have := c4 size hE.last; omega
    subst this
    rw [decide_eq_false (by omega), Bool.false_and] at c5
    rcases c6 with ⟨_, d2, _, d4⟩ | ⟨d1, _⟩
    · exact ⟨d2, d4⟩
    · rw [c5] at d1; simp at d1
end SpanM
end Go.Proofs.Ytpnahhpkaegeeaa
