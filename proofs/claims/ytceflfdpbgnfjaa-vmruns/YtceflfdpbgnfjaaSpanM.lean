/- Plain mathematics of times that come again. -/
set_option linter.unusedVariables false
namespace Go.Proofs.Ytceflfdpbgnfjaa
namespace SpanM
abbrev Sp := Int × Int

/-- is t in one of the spans? -/
def mem (l : List Sp) (t : Int) : Bool := l.any fun x => decide (x.1 ≤ t) && decide (t < x.2)

/-- each begins above the end of the one ahead of it -/
def good (size : Int) : Int → List Sp → Bool
  | _, [] => true
  | e, x :: r => decide (e < x.1) && decide (x.1 < x.2) && decide (x.2 ≤ size) && good size x.2 r

theorem good_cons {size e : Int} {x : Sp} {r : List Sp} : good size e (x :: r) = true ↔ e < x.1 ∧ x.1 < x.2 ∧ x.2 ≤ size ∧ good size x.2 r = true := by
  simp [good, and_assoc]

@[simp] theorem mem_nil (t : Int) : mem [] t = false := rfl
theorem mem_cons (x : Sp) (r : List Sp) (t : Int) : mem (x :: r) t = (decide (x.1 ≤ t ∧ t < x.2) || mem r t) := by
  simp [mem]
theorem mem_append (l r : List Sp) (t : Int) : mem (l ++ r) t = (mem l t || mem r t) := by
  simp [mem]
theorem mem_iff (l : List Sp) (t : Int) : mem l t = true ↔ ∃ x ∈ l, x.1 ≤ t ∧ t < x.2 := by
  simp [mem]
theorem mem_perm {l r : List Sp} (h : ∀ x, x ∈ l ↔ x ∈ r) (t : Int) : mem l t = mem r t := by
  rw [Bool.eq_iff_iff, mem_iff, mem_iff]; simp [h]

theorem good_mem {size : Int} : ∀ {e : Int} {l : List Sp} {t : Int}, good size e l = true → mem l t = true → e < t ∧ t < size := by
  intro e l
  induction l generalizing e with
  | nil => intro t _ h; simp at h
  | cons x r ih =>
    intro t h hm
    obtain ⟨h1, h2, h3, h4⟩ := good_cons.1 h
    rw [mem_cons] at hm
    simp only [Bool.or_eq_true, decide_eq_true_eq] at hm
    rcases hm with hm | hm
    · omega
    · have := ih h4 hm; omega
theorem good_not {size e t : Int} {l : List Sp} (h : good size e l = true) (ht : t ≤ e) : mem l t = false := by
  cases hm : mem l t
  · rfl
  · have := good_mem h hm; omega
theorem good_weak {size e f : Int} {l : List Sp} (h : good size e l = true) (hf : f ≤ e) : good size f l = true := by
  cases l with
  | nil => rfl
  | cons x r =>
    obtain ⟨h1, h2, h3, h4⟩ := good_cons.1 h
    exact good_cons.2 ⟨by omega, h2, h3, h4⟩
theorem good_each {size : Int} : ∀ {e : Int} {l : List Sp}, good size e l = true → ∀ x ∈ l, e < x.1 ∧ x.1 < x.2 ∧ x.2 ≤ size := by
  intro e l
  induction l generalizing e with
  | nil => intro _ x hx; simp at hx
  | cons y r ih =>
    intro h x hx
    obtain ⟨h1, h2, h3, h4⟩ := good_cons.1 h
    rcases List.mem_cons.1 hx with rfl | hx
    · exact ⟨h1, h2, h3⟩
    · have := ih h4 x hx; omega

/-- a set has one form -/
theorem unique {size : Int} : ∀ {e : Int} {l m : List Sp}, good size e l = true → good size e m = true → (∀ t, mem l t = mem m t) → l = m := by
  intro e l
  induction l generalizing e with
  | nil =>
    intro m _ hm h
    cases m with
    | nil => rfl
    | cons y r =>
      obtain ⟨h1, h2, h3, h4⟩ := good_cons.1 hm
      have := h y.1
      rw [mem_cons] at this
      simp [h2] at this
  | cons x r ih =>
    intro m hl hm h
    obtain ⟨h1, h2, h3, h4⟩ := good_cons.1 hl
    cases m with
    | nil =>
      have := h x.1
      rw [mem_cons] at this
      simp [h2] at this
    | cons y s =>
      obtain ⟨k1, k2, k3, k4⟩ := good_cons.1 hm
      have e1 : x.1 = y.1 := by
        rcases Int.lt_trichotomy x.1 y.1 with hh | hh | hh
        · have a := h x.1
          rw [mem_cons, mem_cons, good_not k4 (by omega), decide_eq_true (⟨by omega, h2⟩ : x.1 ≤ x.1 ∧ x.1 < x.2), decide_eq_false (by omega : ¬ (y.1 ≤ x.1 ∧ x.1 < y.2))] at a
          simp at a
        · exact hh
        · have a := h y.1
          rw [mem_cons, mem_cons, good_not h4 (by omega), decide_eq_true (⟨by omega, k2⟩ : y.1 ≤ y.1 ∧ y.1 < y.2), decide_eq_false (by omega : ¬ (x.1 ≤ y.1 ∧ y.1 < x.2))] at a
          simp at a
      have e2 : x.2 = y.2 := by
        rcases Int.lt_trichotomy x.2 y.2 with hh | hh | hh
        · have a := h x.2
          rw [mem_cons, mem_cons, good_not h4 (by omega), decide_eq_false (by omega : ¬ (x.1 ≤ x.2 ∧ x.2 < x.2)), decide_eq_true (by omega : y.1 ≤ x.2 ∧ x.2 < y.2)] at a
          simp at a
        · exact hh
        · have a := h y.2
          rw [mem_cons, mem_cons, good_not k4 (by omega), decide_eq_false (by omega : ¬ (y.1 ≤ y.2 ∧ y.2 < y.2)), decide_eq_true (by omega : x.1 ≤ y.2 ∧ y.2 < x.2)] at a
          simp at a
      have e3 : x = y := Prod.ext e1 e2
      subst e3
      rw [ih h4 k4 fun t => ?_]
      have a := h t
      rw [mem_cons, mem_cons] at a
      by_cases ht : x.1 ≤ t ∧ t < x.2
      · rw [good_not h4 (by omega), good_not k4 (by omega)]
      · rw [decide_eq_false ht] at a
        simpa using a

/-- the end of the last one, or what was ahead of all -/
def lastEnd : Int → List Sp → Int
  | e, [] => e
  | _, x :: r => lastEnd x.2 r
theorem lastEnd_snoc (e : Int) (l : List Sp) (x : Sp) : lastEnd e (l ++ [x]) = x.2 := by
  induction l generalizing e with
  | nil => rfl
  | cons y r ih => exact ih _
theorem good_append {size : Int} : ∀ {e : Int} {l r : List Sp}, good size e (l ++ r) = true ↔ good size e l = true ∧ good size (lastEnd e l) r = true := by
  intro e l
  induction l generalizing e with
  | nil => intro r; simp [good, lastEnd]
  | cons y s ih =>
    intro r
    rw [List.cons_append, good_cons, good_cons, ih]
    simp [lastEnd, and_assoc]
theorem good_snoc {size e : Int} {l : List Sp} {x : Sp} : good size e (l ++ [x]) = true ↔ good size e l = true ∧ lastEnd e l < x.1 ∧ x.1 < x.2 ∧ x.2 ≤ size := by
  rw [good_append, good_cons]; simp [good]
theorem lastEnd_le {size e : Int} {l : List Sp} (h : good size e l = true) : e ≤ lastEnd e l := by
  induction l generalizing e with
  | nil => simp [lastEnd]
  | cons y r ih =>
    obtain ⟨h1, h2, h3, h4⟩ := good_cons.1 h
    have := ih h4
    simp only [lastEnd]; omega

/-- what add does -/
def addL (l : List Sp) (x : Sp) : List Sp := if x.1 < x.2 then l ++ [x] else l
theorem mem_addL (l : List Sp) (x : Sp) (t : Int) : mem (addL l x) t = (mem l t || decide (x.1 ≤ t ∧ t < x.2)) := by
  unfold addL
  split
  · rw [mem_append, mem_cons]; simp
  · rw [decide_eq_false (by omega)]; simp

/-- the gaps ahead of spans, from e on -/
def gaps : Int → List Sp → List Sp
  | _, [] => []
  | e, x :: r => (if e < x.1 then [(e, x.1)] else []) ++ gaps x.2 r
theorem gaps_snoc (e : Int) (l : List Sp) (x : Sp) : gaps e (l ++ [x]) = addL (gaps e l) (lastEnd e l, x.1) := by
  induction l generalizing e with
  | nil => simp only [List.nil_append, gaps, addL, lastEnd]; split <;> simp [*]
  | cons y r ih =>
    simp only [List.cons_append, gaps, lastEnd]
    rw [ih]
    unfold addL
    split <;> split <;> simp
def notE (size : Int) : Int → List Sp → List Sp
  | e, [] => if e < size then [(e, size)] else []
  | e, x :: r => (if e < x.1 then [(e, x.1)] else []) ++ notE size x.2 r
theorem notE_eq (size e : Int) (l : List Sp) : addL (gaps e l) (lastEnd e l, size) = notE size e l := by
  induction l generalizing e with
  | nil => simp only [gaps, addL, lastEnd, notE]; split <;> simp [*]
  | cons y r ih =>
    simp only [gaps, lastEnd, notE]
    rw [← ih]
    unfold addL
    split <;> split <;> simp
theorem notE_good {size : Int} : ∀ {e : Int} {l : List Sp}, good size (e - 1) l = true → good size (e - 1) (notE size e l) = true ∧ ∀ t, mem (notE size e l) t = (decide (e ≤ t ∧ t < size) && !mem l t) := by
  intro e l
  induction l generalizing e with
  | nil =>
    intro _
    unfold notE
    split
    · refine ⟨good_cons.2 ⟨by simp; omega, by simpa using ‹_›, by simp, rfl⟩, fun t => by rw [mem_cons]; simp⟩
    · refine ⟨rfl, fun t => ?_⟩
      rw [decide_eq_false (by omega)]; simp
  | cons x r ih =>
    intro h
    obtain ⟨h1, h2, h3, h4⟩ := good_cons.1 h
    obtain ⟨i1, i2⟩ := ih (good_weak h4 (by omega : x.2 - 1 ≤ x.2))
    unfold notE
    refine ⟨?_, fun t => ?_⟩
    · split
      · exact good_cons.2 ⟨by simp; omega, by simpa using ‹_›, by simp; omega, good_weak i1 (by simp; omega)⟩
      · exact good_weak i1 (by omega)
    · have hm : mem (if e < x.1 then [(e, x.1)] else []) t = decide (e ≤ t ∧ t < x.1) := by
        split
        · rw [mem_cons]; simp
        · rw [decide_eq_false (by omega)]; rfl
      rw [mem_append, hm, i2, mem_cons]
      by_cases a : t < x.2
      · rw [good_not h4 (by omega), decide_eq_false (by omega : ¬ (x.2 ≤ t ∧ t < size))]
        by_cases b : e ≤ t ∧ t < x.1
        · rw [decide_eq_true b, decide_eq_true (by omega : e ≤ t ∧ t < size), decide_eq_false (by omega : ¬ (x.1 ≤ t ∧ t < x.2))]; rfl
        · rw [decide_eq_false b]
          by_cases c : e ≤ t
          · rw [decide_eq_true (by omega : x.1 ≤ t ∧ t < x.2)]; simp
          · rw [decide_eq_false (by omega : ¬ (e ≤ t ∧ t < size))]; simp
      · rw [decide_eq_false (by omega : ¬ (e ≤ t ∧ t < x.1)), decide_eq_false (by omega : ¬ (x.1 ≤ t ∧ t < x.2))]
        by_cases c : t < size
        · rw [decide_eq_true (by omega : x.2 ≤ t ∧ t < size), decide_eq_true (by omega : e ≤ t ∧ t < size)]; simp
        · rw [decide_eq_false (by omega : ¬ (x.2 ≤ t ∧ t < size)), decide_eq_false (by omega : ¬ (e ≤ t ∧ t < size))]; simp
theorem gaps_len (e : Int) (l : List Sp) : (gaps e l).length ≤ l.length := by
  induction l generalizing e with
  | nil => simp [gaps]
  | cons x r ih => have := ih x.2; simp only [gaps]; split <;> simp <;> omega
theorem notE_len (size e : Int) (l : List Sp) : (notE size e l).length ≤ l.length + 1 := by
  induction l generalizing e with
  | nil => simp only [notE]; split <;> simp
  | cons x r ih => have := ih x.2; simp only [notE]; split <;> simp <;> omega

/-- Both, behind i spans of a and j of b -/
def Binv (size : Int) (a b : List Sp) (i j : Nat) (acc : List Sp) : Prop :=
  ∃ e f : Int, good size e (a.drop i) = true ∧ good size f (b.drop j) = true ∧ good size (-1) acc = true ∧ (lastEnd (-1) acc ≤ e ∨ lastEnd (-1) acc ≤ f) ∧ ∀ t, (mem a t && mem b t) = (mem acc t || (mem (a.drop i) t && mem (b.drop j) t))
theorem Binv.start {size : Int} {a b : List Sp} (ha : good size (-1) a = true) (hb : good size (-1) b = true) : Binv size a b 0 0 [] :=
  ⟨-1, -1, by simpa using ha, by simpa using hb, rfl, .inl (by simp [lastEnd]), fun t => by simp⟩
theorem Binv.good {size : Int} {a b : List Sp} {i j : Nat} {acc : List Sp} (h : Binv size a b i j acc) : SpanM.good size (-1) acc = true := by
  obtain ⟨e, f, _, _, h, _⟩ := h; exact h
theorem Binv.done {size : Int} {a b : List Sp} {i j : Nat} {acc : List Sp} (h : Binv size a b i j acc) (hd : a.length ≤ i ∨ b.length ≤ j) : ∀ t, mem acc t = (mem a t && mem b t) := by
  obtain ⟨e, f, _, _, _, _, h⟩ := h
  intro t
  rw [h t]
  rcases hd with hd | hd
  · rw [List.drop_of_length_le hd]; simp
  · rw [List.drop_of_length_le hd]; simp
theorem drop_at {l : List Sp} {i : Nat} {x : Sp} (h : l[i]? = some x) : l.drop i = x :: l.drop (i + 1) := by
  obtain ⟨hi, rfl⟩ := List.getElem?_eq_some_iff.1 h
  exact (List.drop_eq_getElem_cons hi)
theorem drop_get (l : List Sp) (k : Nat) (h : k < l.length) : l.drop k = l.getD k (0, 0) :: l.drop (k + 1) := by
  rw [List.drop_eq_getElem_cons h]; simp [List.getD, h]
theorem take_snoc (l : List Sp) (k : Nat) (h : k < l.length) : l.take (k + 1) = l.take k ++ [l.getD k (0, 0)] := by
  rw [List.take_succ_eq_append_getElem h]; simp [List.getD, h]
theorem Binv.facts {size : Int} {a b : List Sp} {i j : Nat} {acc : List Sp} {x y : Sp} (h : Binv size a b i j acc) (hx : a[i]? = some x) (hy : b[j]? = some y) :
    SpanM.good size (-1) (addL acc (max x.1 y.1, min x.2 y.2)) = true ∧ (x.2 < y.2 → Binv size a b (i + 1) j (addL acc (max x.1 y.1, min x.2 y.2))) ∧ (¬ x.2 < y.2 → Binv size a b i (j + 1) (addL acc (max x.1 y.1, min x.2 y.2))) := by
  obtain ⟨e, f, ga, gb, gc, hl, hm⟩ := h
  rw [drop_at hx] at ga hm
  rw [drop_at hy] at gb hm
  obtain ⟨a1, a2, a3, a4⟩ := good_cons.1 ga
  obtain ⟨b1, b2, b3, b4⟩ := good_cons.1 gb
  have hg : SpanM.good size (-1) (addL acc (max x.1 y.1, min x.2 y.2)) = true := by
    unfold addL
    split
    · refine good_snoc.2 ⟨gc, ?_, by simpa using ‹_›, ?_⟩
      · simp only; omega
      · simp only; omega
    · exact gc
  have hle : lastEnd (-1) (addL acc (max x.1 y.1, min x.2 y.2)) = lastEnd (-1) acc ∨ lastEnd (-1) (addL acc (max x.1 y.1, min x.2 y.2)) = min x.2 y.2 := by
    unfold addL
    split
    · right; rw [lastEnd_snoc]
    · left; rfl
  refine ⟨hg, fun hlt => ⟨x.2, f, a4, by rw [drop_at hy]; exact gb, ?_⟩, fun hlt => ⟨e, y.2, by rw [drop_at hx]; exact ga, b4, ?_⟩⟩
  · refine ⟨hg, ?_, fun t => ?_⟩
    · omega
    · rw [drop_at hy, hm t, mem_addL, mem_cons, mem_cons]
      simp only []
      by_cases c : t < x.2
      · rw [good_not b4 (by omega), good_not a4 (by omega)]
        by_cases d : x.1 ≤ t ∧ t < x.2
        · by_cases d2 : y.1 ≤ t ∧ t < y.2
          · rw [decide_eq_true d, decide_eq_true d2, decide_eq_true (by omega : max x.1 y.1 ≤ t ∧ t < min x.2 y.2)]; simp
          · rw [decide_eq_true d, decide_eq_false d2, decide_eq_false (by omega : ¬ (max x.1 y.1 ≤ t ∧ t < min x.2 y.2))]; simp
        · rw [decide_eq_false d, decide_eq_false (by omega : ¬ (max x.1 y.1 ≤ t ∧ t < min x.2 y.2))]; simp
      · rw [decide_eq_false (by omega : ¬ (x.1 ≤ t ∧ t < x.2)), decide_eq_false (by omega : ¬ (max x.1 y.1 ≤ t ∧ t < min x.2 y.2))]; simp
  · refine ⟨hg, ?_, fun t => ?_⟩
    · omega
    · rw [drop_at hx, hm t, mem_addL, mem_cons, mem_cons]
      simp only []
      by_cases c : t < y.2
      · rw [good_not b4 (by omega), good_not a4 (by omega)]
        by_cases d : x.1 ≤ t ∧ t < x.2
        · by_cases d2 : y.1 ≤ t ∧ t < y.2
          · rw [decide_eq_true d, decide_eq_true d2, decide_eq_true (by omega : max x.1 y.1 ≤ t ∧ t < min x.2 y.2)]; simp
          · rw [decide_eq_true d, decide_eq_false d2, decide_eq_false (by omega : ¬ (max x.1 y.1 ≤ t ∧ t < min x.2 y.2))]; simp
        · rw [decide_eq_false d, decide_eq_false (by omega : ¬ (max x.1 y.1 ≤ t ∧ t < min x.2 y.2))]; simp
      · rw [decide_eq_false (by omega : ¬ (y.1 ≤ t ∧ t < y.2)), decide_eq_false (by omega : ¬ (max x.1 y.1 ≤ t ∧ t < min x.2 y.2))]; simp

/-- join, behind the first k of a list that rises -/
def Jinv (size : Int) (p acc : List Sp) : Prop :=
  good size (-1) acc = true ∧ (∀ t, mem acc t = mem p t) ∧ acc.length ≤ p.length ∧ (acc = [] → p = []) ∧ ∀ l y, acc = l ++ [y] → ∃ x ∈ p, x.1 = y.1
theorem Jinv.start (size : Int) : Jinv size [] [] := ⟨rfl, fun _ => rfl, by simp, fun _ => rfl, fun l y h => by simp at h⟩
theorem Jinv.first {size : Int} {x : Sp} (h : 0 ≤ x.1 ∧ x.1 < x.2 ∧ x.2 ≤ size) : Jinv size [x] [x] := by
  refine ⟨good_cons.2 ⟨by omega, h.2.1, h.2.2, rfl⟩, fun _ => rfl, by simp, fun h => by simp at h, fun l y e => ?_⟩
  have := congrArg List.getLast? e
  simp at this
  exact ⟨x, by simp, by rw [this]⟩
theorem Jinv.longer {size : Int} {p l : List Sp} {y x : Sp} (h : Jinv size p (l ++ [y])) (hx : 0 ≤ x.1 ∧ x.1 < x.2 ∧ x.2 ≤ size) (hs : ∀ z ∈ p, z.1 ≤ x.1) (hle : x.1 ≤ y.2) : Jinv size (p ++ [x]) (l ++ [(y.1, max y.2 x.2)]) := by
  obtain ⟨h1, h2, h3, h4, h5⟩ := h
  obtain ⟨g1, g2, g3, g4⟩ := good_snoc.1 h1
  obtain ⟨z, hz, hzy⟩ := h5 l y rfl
  have := hs z hz
  refine ⟨good_snoc.2 ⟨g1, by simpa using g2, by simp only; omega, by simp only; omega⟩, fun t => ?_, by simp at h3 ⊢; omega, fun h => by simp at h, fun l' y' e => ?_⟩
  · rw [mem_append, mem_append, ← h2 t, mem_append, mem_cons, mem_cons, mem_cons]
    simp only [mem_nil, Bool.or_false]
    rw [Bool.or_assoc]
    congr 1
    rw [Bool.eq_iff_iff]; simp only [decide_eq_true_eq, Bool.or_eq_true]; omega
  · have := congrArg List.getLast? e
    simp at this
    exact ⟨z, by simp [hz], by rw [hzy, ← this]⟩
theorem Jinv.more {size : Int} {p l : List Sp} {y x : Sp} (h : Jinv size p (l ++ [y])) (hx : 0 ≤ x.1 ∧ x.1 < x.2 ∧ x.2 ≤ size) (hle : ¬ x.1 ≤ y.2) : Jinv size (p ++ [x]) (l ++ [y] ++ [x]) := by
  obtain ⟨h1, h2, h3, h4, h5⟩ := h
  refine ⟨good_snoc.2 ⟨h1, by rw [lastEnd_snoc]; omega, hx.2.1, hx.2.2⟩, fun t => ?_, by simp at h3 ⊢; omega, fun h => by simp at h, fun l' y' e => ?_⟩
  · rw [mem_append _ [x], mem_append p, h2 t]
  · have := congrArg List.getLast? e
    simp at this
    exact ⟨x, by simp, by rw [this]⟩

/-- how many of a round's times up to n are in one of the spans -/
def cnt : List Sp → Int → Int
  | [], _ => 0
  | x :: r, n => max 0 (min x.2 n - x.1) + cnt r n
theorem cnt_snoc (l : List Sp) (x : Sp) (n : Int) : cnt (l ++ [x]) n = cnt l n + max 0 (min x.2 n - x.1) := by
  induction l with
  | nil => simp [cnt]
  | cons y r ih => simp only [List.cons_append, cnt]; omega
theorem cnt_nonneg (l : List Sp) (n : Int) : 0 ≤ cnt l n := by
  induction l with
  | nil => simp [cnt]
  | cons y r ih => simp only [cnt]; omega
theorem cnt_le {size : Int} : ∀ {e : Int} {l : List Sp} {n : Int}, good size e l = true → cnt l n ≤ max 0 (n - e) ∧ cnt l n ≤ max 0 (size - e) := by
  intro e l
  induction l generalizing e with
  | nil => intro n _; simp [cnt]; omega
  | cons x r ih =>
    intro n h
    obtain ⟨h1, h2, h3, h4⟩ := good_cons.1 h
    have := ih (n := n) h4
    simp only [cnt]; omega
theorem cnt_zero {size e : Int} {l : List Sp} (h : good size e l = true) (he : -1 ≤ e) : cnt l 0 = 0 := by
  have a := cnt_nonneg l 0
  induction l generalizing e with
  | nil => simp [cnt]
  | cons x r ih =>
    obtain ⟨h1, h2, h3, h4⟩ := good_cons.1 h
    have := ih h4 (by omega) (cnt_nonneg r 0)
    simp only [cnt]; omega
def one (b : Bool) : Int := if b then 1 else 0
theorem cnt_succ {size e : Int} {l : List Sp} (h : good size e l = true) (n : Int) : cnt l (n + 1) = cnt l n + one (mem l n) := by
  induction l generalizing e with
  | nil => simp [cnt, one]
  | cons x r ih =>
    obtain ⟨h1, h2, h3, h4⟩ := good_cons.1 h
    have := ih h4
    simp only [cnt]
    rw [this, mem_cons]
    by_cases c : x.1 ≤ n ∧ n < x.2
    · rw [decide_eq_true c, good_not h4 (by omega)]; simp [one]; omega
    · rw [decide_eq_false c]; simp only [Bool.false_or]; omega
/-- how many below n -/
def num (f : Int → Bool) : Nat → Int
  | 0 => 0
  | n + 1 => num f n + one (f n)
/-- how many times from 0 on, up to t, are in the set -/
def cb (size : Int) (l : List Sp) (t : Int) : Int := t / size * cnt l size + cnt l (t % size)
theorem cb_num {size : Int} {l : List Sp} (hs : 1 ≤ size) (h : good size (-1) l = true) (n : Nat) : cb size l n = num (fun u => mem l (u % size)) n := by
  induction n with
  | zero => simp [cb, num, cnt_zero h]
  | succ n ih =>
    simp only [num]
    rw [← ih]
    have m1 := Int.emod_nonneg (n : Int) (show size ≠ 0 by omega)
    have m2 := Int.emod_lt_of_pos (n : Int) (show 0 < size by omega)
    have m3 := Int.emod_add_mul_ediv (n : Int) size
    unfold cb
    by_cases c : (n : Int) % size + 1 < size
    · have q : ((n + 1 : Nat) : Int) / size = (n : Int) / size := by
        refine (Int.ediv_eq_iff_of_pos (by omega)).2 ?_
        rw [Int.mul_comm] at m3
        omega
      have r : ((n + 1 : Nat) : Int) % size = (n : Int) % size + 1 := by
        have m4 := Int.emod_add_mul_ediv ((n + 1 : Nat) : Int) size
        rw [q] at m4
        omega
      rw [q, r, cnt_succ h]; omega
    · have q : ((n + 1 : Nat) : Int) / size = (n : Int) / size + 1 := by
        refine (Int.ediv_eq_iff_of_pos (by omega)).2 ?_
        rw [Int.mul_comm] at m3
        rw [Int.add_mul]
        omega
      have r : ((n + 1 : Nat) : Int) % size = 0 := by
        have m4 := Int.emod_add_mul_ediv ((n + 1 : Nat) : Int) size
        rw [q, Int.mul_add] at m4
        omega
      have s := cnt_succ h ((n : Int) % size)
      rw [show (n : Int) % size + 1 = size by omega] at s
      rw [q, r, cnt_zero h (by omega), Int.add_mul]; omega
theorem one_bd (b : Bool) : 0 ≤ one b ∧ one b ≤ 1 := by cases b <;> simp [one]
theorem num_bd (f : Int → Bool) (n m : Nat) (h : n ≤ m) : 0 ≤ num f m - num f n ∧ num f m - num f n ≤ (m : Int) - n := by
  obtain ⟨k, rfl⟩ : ∃ k, m = n + k := ⟨m - n, by omega⟩
  induction k with
  | zero => simp
  | succ k ih =>
    have a := ih (by omega)
    have b := one_bd (f ((n + k : Nat) : Int))
    have e : num f (n + (k + 1)) = num f (n + k) + one (f ((n + k : Nat) : Int)) := rfl
    rw [e]; omega
theorem num_sum (f g h k : Int → Bool) (n : Nat) (e : ∀ u, one (f u) + one (g u) = one (h u) + one (k u)) : num f n + num g n = num h n + num k n := by
  induction n with
  | zero => simp [num]
  | succ n ih => have := e n; simp only [num]; omega
theorem num_all (f g : Int → Bool) (n : Nat) (e : ∀ u : Nat, u < n → one (f u) + one (g u) = 1) : num f n + num g n = n := by
  induction n with
  | zero => simp [num]
  | succ n ih => have a := e n (by omega); have := ih (fun u hu => e u (by omega)); simp only [num]; omega
theorem num_none (f : Int → Bool) (n m : Nat) (h : n ≤ m) (e : ∀ u : Nat, n ≤ u → u < m → f u = false) : num f m = num f n := by
  obtain ⟨k, rfl⟩ : ∃ k, m = n + k := ⟨m - n, by omega⟩
  induction k with
  | zero => rfl
  | succ k ih =>
    have a := ih (by omega) (fun u h1 h2 => e u h1 (by omega))
    have b := e (n + k) (by omega) (by omega)
    have c : num f (n + (k + 1)) = num f (n + k) + one (f ((n + k : Nat) : Int)) := rfl
    rw [c, b, a]; simp [one]
/-- the first time from t on -/
def NextP (size : Int) (l : List Sp) (t n : Int) : Prop := t ≤ n ∧ n < t + size ∧ mem l (n % size) = true ∧ ∀ u, t ≤ u → u < n → mem l (u % size) = false
theorem NextP.unique {size : Int} {l : List Sp} {t n m : Int} (h : NextP size l t n) (k : NextP size l t m) : n = m := by
  obtain ⟨h1, h2, h3, h4⟩ := h
  obtain ⟨k1, k2, k3, k4⟩ := k
  rcases Int.lt_trichotomy n m with hh | hh | hh
  · rw [k4 n h1 hh] at h3; simp at h3
  · exact hh
  · rw [h4 m k1 hh] at k3; simp at k3
theorem mod_at {size t m : Int} (h0 : 0 ≤ m) (h1 : m < size) : (t - t % size + m) % size = m := by
  have m3 := Int.emod_add_mul_ediv t size
  have : t - t % size + m = m + size * (t / size) := by omega
  rw [this, Int.add_mul_emod_self_left, Int.emod_eq_of_lt h0 h1]
theorem next_found {size t f e : Int} {l p r : List Sp} (hs : 1 ≤ size) (hg : good size (-1) l = true) (hl : l = p ++ (f, e) :: r) (hp : ∀ x ∈ p, x.2 ≤ t % size) (he : t % size < e) : NextP size l t (t - t % size + max (t % size) f) := by
  have m1 := Int.emod_nonneg t (show size ≠ 0 by omega)
  have m2 := Int.emod_lt_of_pos t (show 0 < size by omega)
  subst hl
  obtain ⟨g1, g2⟩ := good_append.1 hg
  obtain ⟨g3, g4, g5, g6⟩ := good_cons.1 g2
  have g7 := lastEnd_le g1
  simp only at g3 g4 g5 g6
  refine ⟨by omega, by omega, ?_, fun u h1 h2 => ?_⟩
  · rw [mod_at (by omega) (by omega), mem_append, mem_cons, decide_eq_true (by simp only; omega)]; simp
  · have e1 : u = t - t % size + (u - (t - t % size)) := by omega
    rw [e1, mod_at (by omega) (by omega), mem_append, mem_cons, good_not g6 (by omega), decide_eq_false (by simp only; omega)]
    have : mem p (u - (t - t % size)) = false := by
      cases hm : mem p (u - (t - t % size))
      · rfl
      · obtain ⟨x, hx, h3, h4⟩ := (mem_iff _ _).1 hm
        have := hp x hx
        omega
    rw [this]; rfl
theorem next_round {size t f e : Int} {l r : List Sp} (hs : 1 ≤ size) (hg : good size (-1) l = true) (hl : l = (f, e) :: r) (hp : ∀ x ∈ l, x.2 ≤ t % size) : NextP size l t (t - t % size + size + f) := by
  have m1 := Int.emod_nonneg t (show size ≠ 0 by omega)
  have m2 := Int.emod_lt_of_pos t (show 0 < size by omega)
  subst hl
  obtain ⟨g3, g4, g5, g6⟩ := good_cons.1 hg
  have h0 := hp (f, e) (by simp)
  simp only at g3 g4 g5 g6 h0
  have key : ∀ m, t - t % size + size + m = (t + size) - (t + size) % size + m := by
    intro m
    rw [Int.add_emod_right]; omega
  refine ⟨by omega, by omega, ?_, fun u h1 h2 => ?_⟩
  · rw [key, mod_at (by omega) (by omega), mem_cons, decide_eq_true (by simp only; omega)]; rfl
  · by_cases c : u < t - t % size + size
    · have e1 : u = t - t % size + (u - (t - t % size)) := by omega
      rw [e1, mod_at (by omega) (by omega)]
      cases hm : mem ((f, e) :: r) (u - (t - t % size))
      · rfl
      · obtain ⟨x, hx, h3, h4⟩ := (mem_iff _ _).1 hm
        have := hp x hx
        omega
    · have e1 : u = t - t % size + size + (u - (t - t % size + size)) := by omega
      rw [e1, key, mod_at (by omega) (by omega), mem_cons, good_not g6 (by omega), decide_eq_false (by simp only; omega)]; rfl
/-- rounds in which a span is over by t -/
def whole (size t : Int) (x : Sp) : Int := if x.2 ≤ t then (t - x.2) / size + 1 else 0
theorem whole_bd {size t : Int} {x : Sp} (hs : 1 ≤ size) (h1 : 0 ≤ x.1) (h2 : x.1 < x.2) (h3 : x.2 ≤ size) (ht : 0 ≤ t) : 0 ≤ whole size t x ∧ whole size t x ≤ t + 1 ∧ 0 ≤ whole size t x * size ∧ whole size t x * size ≤ t + size ∧ 0 ≤ whole size t x * (x.2 - x.1) ∧ whole size t x * (x.2 - x.1) ≤ t + size := by
  have w0 : 0 ≤ whole size t x ∧ whole size t x ≤ t + 1 ∧ whole size t x * size ≤ t + size := by
    unfold whole
    split
    · have q0 : 0 ≤ (t - x.2) / size := Int.ediv_nonneg (by omega) (by omega)
      have q1 : (t - x.2) / size ≤ t - x.2 := Int.ediv_le_self _ (by omega)
      have m3 := Int.emod_add_mul_ediv (t - x.2) size
      have m1 := Int.emod_nonneg (t - x.2) (show size ≠ 0 by omega)
      rw [Int.add_mul, Int.mul_comm _ size]
      omega
    · omega
  obtain ⟨w1, w2, w3⟩ := w0
  have a := Int.mul_nonneg w1 (show 0 ≤ size by omega)
  have b := Int.mul_nonneg w1 (show 0 ≤ x.2 - x.1 by omega)
  have c : whole size t x * (x.2 - x.1) ≤ whole size t x * size := Int.mul_le_mul_of_nonneg_left (by omega) w1
  exact ⟨w1, w2, a, w3, b, by omega⟩
theorem whole_eq {size t : Int} {x : Sp} (hs : 1 ≤ size) (h1 : 0 ≤ x.1) (h2 : x.1 < x.2) (h3 : x.2 ≤ size) (ht : 0 ≤ t) :
    whole size t x * (x.2 - x.1) + max 0 (t - whole size t x * size - x.1) = t / size * (x.2 - x.1) + max 0 (min x.2 (t % size) - x.1) := by
  have m1 := Int.emod_nonneg t (show size ≠ 0 by omega)
  have m2 := Int.emod_lt_of_pos t (show 0 < size by omega)
  have m3 := Int.emod_add_mul_ediv t size
  have q0 : 0 ≤ t / size := Int.ediv_nonneg ht (by omega)
  by_cases c : x.2 ≤ t % size
  · have hw : whole size t x = t / size + 1 := by
      unfold whole
      have : 0 ≤ size * (t / size) := Int.mul_nonneg (by omega) q0
      rw [if_pos (by omega), (Int.ediv_eq_iff_of_pos (by omega)).2]
      rw [Int.mul_comm]; omega
    rw [hw, Int.add_mul, Int.add_mul, Int.mul_comm (t / size) size]
    omega
  · have hw : whole size t x = t / size := by
      unfold whole
      split
      · have e : (t - x.2) / size = t / size - 1 := by
          refine (Int.ediv_eq_iff_of_pos (by omega)).2 ?_
          rw [Int.sub_mul, Int.mul_comm (t / size) size]; omega
        omega
      · have : t / size = 0 := Int.ediv_eq_zero_of_lt ht (by omega)
        omega
    rw [hw, Int.mul_comm (t / size) size]
    omega
theorem cb_snoc {size t : Int} {l : List Sp} {x : Sp} (hs : 1 ≤ size) (h1 : 0 ≤ x.1) (h2 : x.1 < x.2) (h3 : x.2 ≤ size) (ht : 0 ≤ t) :
    cb size (l ++ [x]) t = cb size l t + whole size t x * (x.2 - x.1) + max 0 (t - whole size t x * size - x.1) := by
  have := whole_eq hs h1 h2 h3 ht
  unfold cb
  rw [cnt_snoc, cnt_snoc, Int.mul_add, show max 0 (min x.2 size - x.1) = x.2 - x.1 by omega]
  omega
theorem good_take {size e : Int} {l : List Sp} (h : good size e l = true) (k : Nat) : good size e (l.take k) = true := by
  rw [← List.take_append_drop k l] at h
  exact (good_append.1 h).1
end SpanM
end Go.Proofs.Ytceflfdpbgnfjaa
