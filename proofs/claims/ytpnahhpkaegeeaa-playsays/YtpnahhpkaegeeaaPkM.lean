/- Several texts, one behind the other: SpanM NumM NumM2 NumM3 SupM SupM2 TaskM PlayM PlayM2 PlayM3 RankM PlayM4 PlayM5 PlayM6 PlayM7 PlayM8 RepM PlyM. -/
import Derived.KernelRfl
/- Plain mathematics of times that come again. -/
set_option linter.unusedVariables false
namespace Go.Proofs.Ytpnahhpkaegeeaa
namespace SpanM
abbrev Sp := Int × Int

/-- is t in one of the spans? -/
def mem (l : List Sp) (t : Int) : Bool := l.any fun x => decide (x.1 ≤ t) && decide (t < x.2)

/-- each begins above the end of the one ahead of it -/
def good (size : Int) : Int → List Sp → Bool
  | _, [] => true
  | e, x :: r => decide (e < x.1) && decide (x.1 < x.2) && decide (x.2 ≤ size) && good size x.2 r

theorem good_cons {size e : Int} {x : Sp} {r : List Sp} : good size e (x :: r) = true ↔ e < x.1 ∧ x.1 < x.2 ∧ x.2 ≤ size ∧ good size x.2 r = true := by
  simp [good, and_assoc]

@[simp] theorem mem_nil (t : Int) : mem [] t = false := rfl
theorem mem_cons (x : Sp) (r : List Sp) (t : Int) : mem (x :: r) t = (decide (x.1 ≤ t ∧ t < x.2) || mem r t) := by
  simp [mem]
theorem mem_append (l r : List Sp) (t : Int) : mem (l ++ r) t = (mem l t || mem r t) := by
  simp [mem]
theorem mem_iff (l : List Sp) (t : Int) : mem l t = true ↔ ∃ x ∈ l, x.1 ≤ t ∧ t < x.2 := by
  simp [mem]
theorem mem_perm {l r : List Sp} (h : ∀ x, x ∈ l ↔ x ∈ r) (t : Int) : mem l t = mem r t := by
  rw [Bool.eq_iff_iff, mem_iff, mem_iff]; simp [h]

theorem good_mem {size : Int} : ∀ {e : Int} {l : List Sp} {t : Int}, good size e l = true → mem l t = true → e < t ∧ t < size := by
  intro e l
  induction l generalizing e with
  | nil => intro t _ h; simp at h
  | cons x r ih =>
    intro t h hm
    obtain ⟨h1, h2, h3, h4⟩ := good_cons.1 h
    rw [mem_cons] at hm
    simp only [Bool.or_eq_true, decide_eq_true_eq] at hm
    rcases hm with hm | hm
    · omega
    · have := ih h4 hm; omega
theorem good_not {size e t : Int} {l : List Sp} (h : good size e l = true) (ht : t ≤ e) : mem l t = false := by
  cases hm : mem l t
  · rfl
  · have := good_mem h hm; omega
theorem good_weak {size e f : Int} {l : List Sp} (h : good size e l = true) (hf : f ≤ e) : good size f l = true := by
  cases l with
  | nil => rfl
  | cons x r =>
    obtain ⟨h1, h2, h3, h4⟩ := good_cons.1 h
    exact good_cons.2 ⟨by omega, h2, h3, h4⟩
theorem good_each {size : Int} : ∀ {e : Int} {l : List Sp}, good size e l = true → ∀ x ∈ l, e < x.1 ∧ x.1 < x.2 ∧ x.2 ≤ size := by
  intro e l
  induction l generalizing e with
  | nil => intro _ x hx; simp at hx
  | cons y r ih =>
    intro h x hx
    obtain ⟨h1, h2, h3, h4⟩ := good_cons.1 h
    rcases List.mem_cons.1 hx with rfl | hx
    · exact ⟨h1, h2, h3⟩
    · have := ih h4 x hx; omega

/-- a set has one form -/
theorem unique {size : Int} : ∀ {e : Int} {l m : List Sp}, good size e l = true → good size e m = true → (∀ t, mem l t = mem m t) → l = m := by
  intro e l
  induction l generalizing e with
  | nil =>
    intro m _ hm h
    cases m with
    | nil => rfl
    | cons y r =>
      obtain ⟨h1, h2, h3, h4⟩ := good_cons.1 hm
      have := h y.1
      rw [mem_cons] at this
      simp [h2] at this
  | cons x r ih =>
    intro m hl hm h
    obtain ⟨h1, h2, h3, h4⟩ := good_cons.1 hl
    cases m with
    | nil =>
      have := h x.1
      rw [mem_cons] at this
      simp [h2] at this
    | cons y s =>
      obtain ⟨k1, k2, k3, k4⟩ := good_cons.1 hm
      have e1 : x.1 = y.1 := by
        rcases Int.lt_trichotomy x.1 y.1 with hh | hh | hh
        · have a := h x.1
          rw [mem_cons, mem_cons, good_not k4 (by omega), decide_eq_true (⟨by omega, h2⟩ : x.1 ≤ x.1 ∧ x.1 < x.2), decide_eq_false (by omega : ¬ (y.1 ≤ x.1 ∧ x.1 < y.2))] at a
          simp at a
        · exact hh
        · have a := h y.1
          rw [mem_cons, mem_cons, good_not h4 (by omega), decide_eq_true (⟨by omega, k2⟩ : y.1 ≤ y.1 ∧ y.1 < y.2), decide_eq_false (by omega : ¬ (x.1 ≤ y.1 ∧ y.1 < x.2))] at a
          simp at a
      have e2 : x.2 = y.2 := by
        rcases Int.lt_trichotomy x.2 y.2 with hh | hh | hh
        · have a := h x.2
          rw [mem_cons, mem_cons, good_not h4 (by omega), decide_eq_false (by omega : ¬ (x.1 ≤ x.2 ∧ x.2 < x.2)), decide_eq_true (by omega : y.1 ≤ x.2 ∧ x.2 < y.2)] at a
          simp at a
        · exact hh
        · have a := h y.2
          rw [mem_cons, mem_cons, good_not k4 (by omega), decide_eq_false (by omega : ¬ (y.1 ≤ y.2 ∧ y.2 < y.2)), decide_eq_true (by omega : x.1 ≤ y.2 ∧ y.2 < x.2)] at a
          simp at a
      have e3 : x = y := Prod.ext e1 e2
      subst e3
      rw [ih h4 k4 fun t => ?_]
      have a := h t
      rw [mem_cons, mem_cons] at a
      by_cases ht : x.1 ≤ t ∧ t < x.2
      · rw [good_not h4 (by omega), good_not k4 (by omega)]
      · rw [decide_eq_false ht] at a
        simpa using a

/-- the end of the last one, or what was ahead of all -/
def lastEnd : Int → List Sp → Int
  | e, [] => e
  | _, x :: r => lastEnd x.2 r
theorem lastEnd_snoc (e : Int) (l : List Sp) (x : Sp) : lastEnd e (l ++ [x]) = x.2 := by
  induction l generalizing e with
  | nil => rfl
  | cons y r ih => exact ih _
theorem good_append {size : Int} : ∀ {e : Int} {l r : List Sp}, good size e (l ++ r) = true ↔ good size e l = true ∧ good size (lastEnd e l) r = true := by
  intro e l
  induction l generalizing e with
  | nil => intro r; simp [good, lastEnd]
  | cons y s ih =>
    intro r
    rw [List.cons_append, good_cons, good_cons, ih]
    simp [lastEnd, and_assoc]
theorem good_snoc {size e : Int} {l : List Sp} {x : Sp} : good size e (l ++ [x]) = true ↔ good size e l = true ∧ lastEnd e l < x.1 ∧ x.1 < x.2 ∧ x.2 ≤ size := by
  rw [good_append, good_cons]; simp [good]
theorem lastEnd_le {size e : Int} {l : List Sp} (h : good size e l = true) : e ≤ lastEnd e l := by
  induction l generalizing e with
  | nil => simp [lastEnd]
  | cons y r ih =>
    obtain ⟨h1, h2, h3, h4⟩ := good_cons.1 h
    have := ih h4
    simp only [lastEnd]; omega

/-- what add does -/
def addL (l : List Sp) (x : Sp) : List Sp := if x.1 < x.2 then l ++ [x] else l
theorem mem_addL (l : List Sp) (x : Sp) (t : Int) : mem (addL l x) t = (mem l t || decide (x.1 ≤ t ∧ t < x.2)) := by
  unfold addL
  split
  · rw [mem_append, mem_cons]; simp
  · rw [decide_eq_false (by omega)]; simp

/-- the gaps ahead of spans, from e on -/
def gaps : Int → List Sp → List Sp
  | _, [] => []
  | e, x :: r => (if e < x.1 then [(e, x.1)] else []) ++ gaps x.2 r
theorem gaps_snoc (e : Int) (l : List Sp) (x : Sp) : gaps e (l ++ [x]) = addL (gaps e l) (lastEnd e l, x.1) := by
  induction l generalizing e with
  | nil => simp only [List.nil_append, gaps, addL, lastEnd]; split <;> simp [*]
  | cons y r ih =>
    simp only [List.cons_append, gaps, lastEnd]
    rw [ih]
    unfold addL
    split <;> split <;> simp
def notE (size : Int) : Int → List Sp → List Sp
  | e, [] => if e < size then [(e, size)] else []
  | e, x :: r => (if e < x.1 then [(e, x.1)] else []) ++ notE size x.2 r
theorem notE_eq (size e : Int) (l : List Sp) : addL (gaps e l) (lastEnd e l, size) = notE size e l := by
  induction l generalizing e with
  | nil => simp only [gaps, addL, lastEnd, notE]; split <;> simp [*]
  | cons y r ih =>
    simp only [gaps, lastEnd, notE]
    rw [← ih]
    unfold addL
    split <;> split <;> simp
theorem notE_good {size : Int} : ∀ {e : Int} {l : List Sp}, good size (e - 1) l = true → good size (e - 1) (notE size e l) = true ∧ ∀ t, mem (notE size e l) t = (decide (e ≤ t ∧ t < size) && !mem l t) := by
  intro e l
  induction l generalizing e with
  | nil =>
    intro _
    unfold notE
    split
    · refine ⟨good_cons.2 ⟨by simp; omega, by simpa using ‹_›, by simp, rfl⟩, fun t => by rw [mem_cons]; simp⟩
    · refine ⟨rfl, fun t => ?_⟩
      rw [decide_eq_false (by omega)]; simp
  | cons x r ih =>
    intro h
    obtain ⟨h1, h2, h3, h4⟩ := good_cons.1 h
    obtain ⟨i1, i2⟩ := ih (good_weak h4 (by omega : x.2 - 1 ≤ x.2))
    unfold notE
    refine ⟨?_, fun t => ?_⟩
    · split
      · exact good_cons.2 ⟨by simp; omega, by simpa using ‹_›, by simp; omega, good_weak i1 (by simp; omega)⟩
      · exact good_weak i1 (by omega)
    · have hm : mem (if e < x.1 then [(e, x.1)] else []) t = decide (e ≤ t ∧ t < x.1) := by
        split
        · rw [mem_cons]; simp
        · rw [decide_eq_false (by omega)]; rfl
      rw [mem_append, hm, i2, mem_cons]
      by_cases a : t < x.2
      · rw [good_not h4 (by omega), decide_eq_false (by omega : ¬ (x.2 ≤ t ∧ t < size))]
        by_cases b : e ≤ t ∧ t < x.1
        · rw [decide_eq_true b, decide_eq_true (by omega : e ≤ t ∧ t < size), decide_eq_false (by omega : ¬ (x.1 ≤ t ∧ t < x.2))]; rfl
        · rw [decide_eq_false b]
          by_cases c : e ≤ t
          · rw [decide_eq_true (by omega : x.1 ≤ t ∧ t < x.2)]; simp
          · rw [decide_eq_false (by omega : ¬ (e ≤ t ∧ t < size))]; simp
      · rw [decide_eq_false (by omega : ¬ (e ≤ t ∧ t < x.1)), decide_eq_false (by omega : ¬ (x.1 ≤ t ∧ t < x.2))]
        by_cases c : t < size
        · rw [decide_eq_true (by omega : x.2 ≤ t ∧ t < size), decide_eq_true (by omega : e ≤ t ∧ t < size)]; simp
        · rw [decide_eq_false (by omega : ¬ (x.2 ≤ t ∧ t < size)), decide_eq_false (by omega : ¬ (e ≤ t ∧ t < size))]; simp
theorem gaps_len (e : Int) (l : List Sp) : (gaps e l).length ≤ l.length := by
  induction l generalizing e with
  | nil => simp [gaps]
  | cons x r ih => have := ih x.2; simp only [gaps]; split <;> simp <;> omega
theorem notE_len (size e : Int) (l : List Sp) : (notE size e l).length ≤ l.length + 1 := by
  induction l generalizing e with
  | nil => simp only [notE]; split <;> simp
  | cons x r ih => have := ih x.2; simp only [notE]; split <;> simp <;> omega

/-- Both, behind i spans of a and j of b -/
def Binv (size : Int) (a b : List Sp) (i j : Nat) (acc : List Sp) : Prop :=
  ∃ e f : Int, good size e (a.drop i) = true ∧ good size f (b.drop j) = true ∧ good size (-1) acc = true ∧ (lastEnd (-1) acc ≤ e ∨ lastEnd (-1) acc ≤ f) ∧ ∀ t, (mem a t && mem b t) = (mem acc t || (mem (a.drop i) t && mem (b.drop j) t))
theorem Binv.start {size : Int} {a b : List Sp} (ha : good size (-1) a = true) (hb : good size (-1) b = true) : Binv size a b 0 0 [] :=
  ⟨-1, -1, by simpa using ha, by simpa using hb, rfl, .inl (by simp [lastEnd]), fun t => by simp⟩
theorem Binv.good {size : Int} {a b : List Sp} {i j : Nat} {acc : List Sp} (h : Binv size a b i j acc) : SpanM.good size (-1) acc = true := by
  obtain ⟨e, f, _, _, h, _⟩ := h; exact h
theorem Binv.done {size : Int} {a b : List Sp} {i j : Nat} {acc : List Sp} (h : Binv size a b i j acc) (hd : a.length ≤ i ∨ b.length ≤ j) : ∀ t, mem acc t = (mem a t && mem b t) := by
  obtain ⟨e, f, _, _, _, _, h⟩ := h
  intro t
  rw [h t]
  rcases hd with hd | hd
  · rw [List.drop_of_length_le hd]; simp
  · rw [List.drop_of_length_le hd]; simp
theorem drop_at {l : List Sp} {i : Nat} {x : Sp} (h : l[i]? = some x) : l.drop i = x :: l.drop (i + 1) := by
  obtain ⟨hi, rfl⟩ := List.getElem?_eq_some_iff.1 h
  exact (List.drop_eq_getElem_cons hi)
theorem drop_get (l : List Sp) (k : Nat) (h : k < l.length) : l.drop k = l.getD k (0, 0) :: l.drop (k + 1) := by
  rw [List.drop_eq_getElem_cons h]; simp [List.getD, h]
theorem take_snoc (l : List Sp) (k : Nat) (h : k < l.length) : l.take (k + 1) = l.take k ++ [l.getD k (0, 0)] := by
  rw [List.take_succ_eq_append_getElem h]; simp [List.getD, h]
theorem Binv.facts {size : Int} {a b : List Sp} {i j : Nat} {acc : List Sp} {x y : Sp} (h : Binv size a b i j acc) (hx : a[i]? = some x) (hy : b[j]? = some y) :
    SpanM.good size (-1) (addL acc (max x.1 y.1, min x.2 y.2)) = true ∧ (x.2 < y.2 → Binv size a b (i + 1) j (addL acc (max x.1 y.1, min x.2 y.2))) ∧ (¬ x.2 < y.2 → Binv size a b i (j + 1) (addL acc (max x.1 y.1, min x.2 y.2))) := by
  obtain ⟨e, f, ga, gb, gc, hl, hm⟩ := h
  rw [drop_at hx] at ga hm
  rw [drop_at hy] at gb hm
  obtain ⟨a1, a2, a3, a4⟩ := good_cons.1 ga
  obtain ⟨b1, b2, b3, b4⟩ := good_cons.1 gb
  have hg : SpanM.good size (-1) (addL acc (max x.1 y.1, min x.2 y.2)) = true := by
    unfold addL
    split
    · refine good_snoc.2 ⟨gc, ?_, by simpa using ‹_›, ?_⟩
      · simp only; omega
      · simp only; omega
    · exact gc
  have hle : lastEnd (-1) (addL acc (max x.1 y.1, min x.2 y.2)) = lastEnd (-1) acc ∨ lastEnd (-1) (addL acc (max x.1 y.1, min x.2 y.2)) = min x.2 y.2 := by
    unfold addL
    split
    · right; rw [lastEnd_snoc]
    · left; rfl
  refine ⟨hg, fun hlt => ⟨x.2, f, a4, by rw [drop_at hy]; exact gb, ?_⟩, fun hlt => ⟨e, y.2, by rw [drop_at hx]; exact ga, b4, ?_⟩⟩
  · refine ⟨hg, ?_, fun t => ?_⟩
    · omega
    · rw [drop_at hy, hm t, mem_addL, mem_cons, mem_cons]
      simp only []
      by_cases c : t < x.2
      · rw [good_not b4 (by omega), good_not a4 (by omega)]
        by_cases d : x.1 ≤ t ∧ t < x.2
        · by_cases d2 : y.1 ≤ t ∧ t < y.2
          · rw [decide_eq_true d, decide_eq_true d2, decide_eq_true (by omega : max x.1 y.1 ≤ t ∧ t < min x.2 y.2)]; simp
          · rw [decide_eq_true d, decide_eq_false d2, decide_eq_false (by omega : ¬ (max x.1 y.1 ≤ t ∧ t < min x.2 y.2))]; simp
        · rw [decide_eq_false d, decide_eq_false (by omega : ¬ (max x.1 y.1 ≤ t ∧ t < min x.2 y.2))]; simp
      · rw [decide_eq_false (by omega : ¬ (x.1 ≤ t ∧ t < x.2)), decide_eq_false (by omega : ¬ (max x.1 y.1 ≤ t ∧ t < min x.2 y.2))]; simp
  · refine ⟨hg, ?_, fun t => ?_⟩
    · omega
    · rw [drop_at hx, hm t, mem_addL, mem_cons, mem_cons]
      simp only []
      by_cases c : t < y.2
      · rw [good_not b4 (by omega), good_not a4 (by omega)]
        by_cases d : x.1 ≤ t ∧ t < x.2
        · by_cases d2 : y.1 ≤ t ∧ t < y.2
          · rw [decide_eq_true d, decide_eq_true d2, decide_eq_true (by omega : max x.1 y.1 ≤ t ∧ t < min x.2 y.2)]; simp
          · rw [decide_eq_true d, decide_eq_false d2, decide_eq_false (by omega : ¬ (max x.1 y.1 ≤ t ∧ t < min x.2 y.2))]; simp
        · rw [decide_eq_false d, decide_eq_false (by omega : ¬ (max x.1 y.1 ≤ t ∧ t < min x.2 y.2))]; simp
      · rw [decide_eq_false (by omega : ¬ (y.1 ≤ t ∧ t < y.2)), decide_eq_false (by omega : ¬ (max x.1 y.1 ≤ t ∧ t < min x.2 y.2))]; simp

/-- join, behind the first k of a list that rises -/
def Jinv (size : Int) (p acc : List Sp) : Prop :=
  good size (-1) acc = true ∧ (∀ t, mem acc t = mem p t) ∧ acc.length ≤ p.length ∧ (acc = [] → p = []) ∧ ∀ l y, acc = l ++ [y] → ∃ x ∈ p, x.1 = y.1
theorem Jinv.start (size : Int) : Jinv size [] [] := ⟨rfl, fun _ => rfl, by simp, fun _ => rfl, fun l y h => by simp at h⟩
theorem Jinv.first {size : Int} {x : Sp} (h : 0 ≤ x.1 ∧ x.1 < x.2 ∧ x.2 ≤ size) : Jinv size [x] [x] := by
  refine ⟨good_cons.2 ⟨by omega, h.2.1, h.2.2, rfl⟩, fun _ => rfl, by simp, fun h => by simp at h, fun l y e => ?_⟩
  have := congrArg List.getLast? e
  simp at this
  exact ⟨x, by simp, by rw [this]⟩
theorem Jinv.longer {size : Int} {p l : List Sp} {y x : Sp} (h : Jinv size p (l ++ [y])) (hx : 0 ≤ x.1 ∧ x.1 < x.2 ∧ x.2 ≤ size) (hs : ∀ z ∈ p, z.1 ≤ x.1) (hle : x.1 ≤ y.2) : Jinv size (p ++ [x]) (l ++ [(y.1, max y.2 x.2)]) := by
  obtain ⟨h1, h2, h3, h4, h5⟩ := h
  obtain ⟨g1, g2, g3, g4⟩ := good_snoc.1 h1
  obtain ⟨z, hz, hzy⟩ := h5 l y rfl
  have := hs z hz
  refine ⟨good_snoc.2 ⟨g1, by simpa using g2, by simp only; omega, by simp only; omega⟩, fun t => ?_, by simp at h3 ⊢; omega, fun h => by simp at h, fun l' y' e => ?_⟩
  · rw [mem_append, mem_append, ← h2 t, mem_append, mem_cons, mem_cons, mem_cons]
    simp only [mem_nil, Bool.or_false]
    rw [Bool.or_assoc]
    congr 1
    rw [Bool.eq_iff_iff]; simp only [decide_eq_true_eq, Bool.or_eq_true]; omega
  · have := congrArg List.getLast? e
    simp at this
    exact ⟨z, by simp [hz], by rw [hzy, ← this]⟩
theorem Jinv.more {size : Int} {p l : List Sp} {y x : Sp} (h : Jinv size p (l ++ [y])) (hx : 0 ≤ x.1 ∧ x.1 < x.2 ∧ x.2 ≤ size) (hle : ¬ x.1 ≤ y.2) : Jinv size (p ++ [x]) (l ++ [y] ++ [x]) := by
  obtain ⟨h1, h2, h3, h4, h5⟩ := h
  refine ⟨good_snoc.2 ⟨h1, by rw [lastEnd_snoc]; omega, hx.2.1, hx.2.2⟩, fun t => ?_, by simp at h3 ⊢; omega, fun h => by simp at h, fun l' y' e => ?_⟩
  · rw [mem_append _ [x], mem_append p, h2 t]
  · have := congrArg List.getLast? e
    simp at this
    exact ⟨x, by simp, by rw [this]⟩

/-- how many of a round's times up to n are in one of the spans -/
def cnt : List Sp → Int → Int
  | [], _ => 0
  | x :: r, n => max 0 (min x.2 n - x.1) + cnt r n
theorem cnt_snoc (l : List Sp) (x : Sp) (n : Int) : cnt (l ++ [x]) n = cnt l n + max 0 (min x.2 n - x.1) := by
  induction l with
  | nil => simp [cnt]
  | cons y r ih => simp only [List.cons_append, cnt]; omega
theorem cnt_nonneg (l : List Sp) (n : Int) : 0 ≤ cnt l n := by
  induction l with
  | nil => simp [cnt]
  | cons y r ih => simp only [cnt]; omega
theorem cnt_le {size : Int} : ∀ {e : Int} {l : List Sp} {n : Int}, good size e l = true → cnt l n ≤ max 0 (n - e) ∧ cnt l n ≤ max 0 (size - e) := by
  intro e l
  induction l generalizing e with
  | nil => intro n _; simp [cnt]; omega
  | cons x r ih =>
    intro n h
    obtain ⟨h1, h2, h3, h4⟩ := good_cons.1 h
    have := ih (n := n) h4
    simp only [cnt]; omega
theorem cnt_zero {size e : Int} {l : List Sp} (h : good size e l = true) (he : -1 ≤ e) : cnt l 0 = 0 := by
  have a := cnt_nonneg l 0
  induction l generalizing e with
  | nil => simp [cnt]
  | cons x r ih =>
    obtain ⟨h1, h2, h3, h4⟩ := good_cons.1 h
    have := ih h4 (by omega) (cnt_nonneg r 0)
    simp only [cnt]; omega
def one (b : Bool) : Int := if b then 1 else 0
theorem cnt_succ {size e : Int} {l : List Sp} (h : good size e l = true) (n : Int) : cnt l (n + 1) = cnt l n + one (mem l n) := by
  induction l generalizing e with
  | nil => simp [cnt, one]
  | cons x r ih =>
    obtain ⟨h1, h2, h3, h4⟩ := good_cons.1 h
    have := ih h4
    simp only [cnt]
    rw [this, mem_cons]
    by_cases c : x.1 ≤ n ∧ n < x.2
    · rw [decide_eq_true c, good_not h4 (by omega)]; simp [one]; omega
    · rw [decide_eq_false c]; simp only [Bool.false_or]; omega
/-- how many below n -/
def num (f : Int → Bool) : Nat → Int
  | 0 => 0
  | n + 1 => num f n + one (f n)
/-- how many times from 0 on, up to t, are in the set -/
def cb (size : Int) (l : List Sp) (t : Int) : Int := t / size * cnt l size + cnt l (t % size)
theorem cb_num {size : Int} {l : List Sp} (hs : 1 ≤ size) (h : good size (-1) l = true) (n : Nat) : cb size l n = num (fun u => mem l (u % size)) n := by
  induction n with
  | zero => simp [cb, num, cnt_zero h]
  | succ n ih =>
    simp only [num]
    rw [← ih]
    have m1 := Int.emod_nonneg (n : Int) (show size ≠ 0 by omega)
    have m2 := Int.emod_lt_of_pos (n : Int) (show 0 < size by omega)
    have m3 := Int.emod_add_mul_ediv (n : Int) size
    unfold cb
    by_cases c : (n : Int) % size + 1 < size
    · have q : ((n + 1 : Nat) : Int) / size = (n : Int) / size := by
        refine (Int.ediv_eq_iff_of_pos (by omega)).2 ?_
        rw [Int.mul_comm] at m3
        omega
      have r : ((n + 1 : Nat) : Int) % size = (n : Int) % size + 1 := by
        have m4 := Int.emod_add_mul_ediv ((n + 1 : Nat) : Int) size
        rw [q] at m4
        omega
      rw [q, r, cnt_succ h]; omega
    · have q : ((n + 1 : Nat) : Int) / size = (n : Int) / size + 1 := by
        refine (Int.ediv_eq_iff_of_pos (by omega)).2 ?_
        rw [Int.mul_comm] at m3
        rw [Int.add_mul]
        omega
      have r : ((n + 1 : Nat) : Int) % size = 0 := by
        have m4 := Int.emod_add_mul_ediv ((n + 1 : Nat) : Int) size
        rw [q, Int.mul_add] at m4
        omega
      have s := cnt_succ h ((n : Int) % size)
      rw [show (n : Int) % size + 1 = size by omega] at s
      rw [q, r, cnt_zero h (by omega), Int.add_mul]; omega
theorem one_bd (b : Bool) : 0 ≤ one b ∧ one b ≤ 1 := by cases b <;> simp [one]
theorem num_bd (f : Int → Bool) (n m : Nat) (h : n ≤ m) : 0 ≤ num f m - num f n ∧ num f m - num f n ≤ (m : Int) - n := by
  obtain ⟨k, rfl⟩ : ∃ k, m = n + k := ⟨m - n, by omega⟩
  induction k with
  | zero => simp
  | succ k ih =>
    have a := ih (by omega)
    have b := one_bd (f ((n + k : Nat) : Int))
    have e : num f (n + (k + 1)) = num f (n + k) + one (f ((n + k : Nat) : Int)) := rfl
    rw [e]; omega
theorem num_sum (f g h k : Int → Bool) (n : Nat) (e : ∀ u, one (f u) + one (g u) = one (h u) + one (k u)) : num f n + num g n = num h n + num k n := by
  induction n with
  | zero => simp [num]
  | succ n ih => have := e n; simp only [num]; omega
theorem num_all (f g : Int → Bool) (n : Nat) (e : ∀ u : Nat, u < n → one (f u) + one (g u) = 1) : num f n + num g n = n := by
  induction n with
  | zero => simp [num]
  | succ n ih => have a := e n (by omega); have := ih (fun u hu => e u (by omega)); simp only [num]; omega
theorem num_none (f : Int → Bool) (n m : Nat) (h : n ≤ m) (e : ∀ u : Nat, n ≤ u → u < m → f u = false) : num f m = num f n := by
  obtain ⟨k, rfl⟩ : ∃ k, m = n + k := ⟨m - n, by omega⟩
  induction k with
  | zero => rfl
  | succ k ih =>
    have a := ih (by omega) (fun u h1 h2 => e u h1 (by omega))
    have b := e (n + k) (by omega) (by omega)
    have c : num f (n + (k + 1)) = num f (n + k) + one (f ((n + k : Nat) : Int)) := rfl
    rw [c, b, a]; simp [one]
/-- the first time from t on -/
def NextP (size : Int) (l : List Sp) (t n : Int) : Prop := t ≤ n ∧ n < t + size ∧ mem l (n % size) = true ∧ ∀ u, t ≤ u → u < n → mem l (u % size) = false
theorem NextP.unique {size : Int} {l : List Sp} {t n m : Int} (h : NextP size l t n) (k : NextP size l t m) : n = m := by
  obtain ⟨h1, h2, h3, h4⟩ := h
  obtain ⟨k1, k2, k3, k4⟩ := k
  rcases Int.lt_trichotomy n m with hh | hh | hh
  · rw [k4 n h1 hh] at h3; simp at h3
  · exact hh
  · rw [h4 m k1 hh] at k3; simp at k3
theorem mod_at {size t m : Int} (h0 : 0 ≤ m) (h1 : m < size) : (t - t % size + m) % size = m := by
  have m3 := Int.emod_add_mul_ediv t size
  have : t - t % size + m = m + size * (t / size) := by omega
  rw [this, Int.add_mul_emod_self_left, Int.emod_eq_of_lt h0 h1]
theorem next_found {size t f e : Int} {l p r : List Sp} (hs : 1 ≤ size) (hg : good size (-1) l = true) (hl : l = p ++ (f, e) :: r) (hp : ∀ x ∈ p, x.2 ≤ t % size) (he : t % size < e) : NextP size l t (t - t % size + max (t % size) f) := by
  have m1 := Int.emod_nonneg t (show size ≠ 0 by omega)
  have m2 := Int.emod_lt_of_pos t (show 0 < size by omega)
  subst hl
  obtain ⟨g1, g2⟩ := good_append.1 hg
  obtain ⟨g3, g4, g5, g6⟩ := good_cons.1 g2
  have g7 := lastEnd_le g1
  simp only at g3 g4 g5 g6
  refine ⟨by omega, by omega, ?_, fun u h1 h2 => ?_⟩
  · rw [mod_at (by omega) (by omega), mem_append, mem_cons, decide_eq_true (by simp only; omega)]; simp
  · have e1 : u = t - t % size + (u - (t - t % size)) := by omega
    rw [e1, mod_at (by omega) (by omega), mem_append, mem_cons, good_not g6 (by omega), decide_eq_false (by simp only; omega)]
    have : mem p (u - (t - t % size)) = false := by
      cases hm : mem p (u - (t - t % size))
      · rfl
      · obtain ⟨x, hx, h3, h4⟩ := (mem_iff _ _).1 hm
        have := hp x hx
        omega
    rw [this]; rfl
theorem next_round {size t f e : Int} {l r : List Sp} (hs : 1 ≤ size) (hg : good size (-1) l = true) (hl : l = (f, e) :: r) (hp : ∀ x ∈ l, x.2 ≤ t % size) : NextP size l t (t - t % size + size + f) := by
  have m1 := Int.emod_nonneg t (show size ≠ 0 by omega)
  have m2 := Int.emod_lt_of_pos t (show 0 < size by omega)
  subst hl
  obtain ⟨g3, g4, g5, g6⟩ := good_cons.1 hg
  have h0 := hp (f, e) (by simp)
  simp only at g3 g4 g5 g6 h0
  have key : ∀ m, t - t % size + size + m = (t + size) - (t + size) % size + m := by
    intro m
    rw [Int.add_emod_right]; omega
  refine ⟨by omega, by omega, ?_, fun u h1 h2 => ?_⟩
  · rw [key, mod_at (by omega) (by omega), mem_cons, decide_eq_true (by simp only; omega)]; rfl
  · by_cases c : u < t - t % size + size
    · have e1 : u = t - t % size + (u - (t - t % size)) := by omega
      rw [e1, mod_at (by omega) (by omega)]
      cases hm : mem ((f, e) :: r) (u - (t - t % size))
      · rfl
      · obtain ⟨x, hx, h3, h4⟩ := (mem_iff _ _).1 hm
        have := hp x hx
        omega
    · have e1 : u = t - t % size + size + (u - (t - t % size + size)) := by omega
      rw [e1, key, mod_at (by omega) (by omega), mem_cons, good_not g6 (by omega), decide_eq_false (by simp only; omega)]; rfl
/-- rounds in which a span is over by t -/
def whole (size t : Int) (x : Sp) : Int := if x.2 ≤ t then (t - x.2) / size + 1 else 0
theorem whole_bd {size t : Int} {x : Sp} (hs : 1 ≤ size) (h1 : 0 ≤ x.1) (h2 : x.1 < x.2) (h3 : x.2 ≤ size) (ht : 0 ≤ t) : 0 ≤ whole size t x ∧ whole size t x ≤ t + 1 ∧ 0 ≤ whole size t x * size ∧ whole size t x * size ≤ t + size ∧ 0 ≤ whole size t x * (x.2 - x.1) ∧ whole size t x * (x.2 - x.1) ≤ t + size := by
  have w0 : 0 ≤ whole size t x ∧ whole size t x ≤ t + 1 ∧ whole size t x * size ≤ t + size := by
    unfold whole
    split
    · have q0 : 0 ≤ (t - x.2) / size := Int.ediv_nonneg (by omega) (by omega)
      have q1 : (t - x.2) / size ≤ t - x.2 := Int.ediv_le_self _ (by omega)
      have m3 := Int.emod_add_mul_ediv (t - x.2) size
      have m1 := Int.emod_nonneg (t - x.2) (show size ≠ 0 by omega)
      rw [Int.add_mul, Int.mul_comm _ size]
      omega
    · omega
  obtain ⟨w1, w2, w3⟩ := w0
  have a := Int.mul_nonneg w1 (show 0 ≤ size by omega)
  have b := Int.mul_nonneg w1 (show 0 ≤ x.2 - x.1 by omega)
  have c : whole size t x * (x.2 - x.1) ≤ whole size t x * size := Int.mul_le_mul_of_nonneg_left (by omega) w1
  exact ⟨w1, w2, a, w3, b, by omega⟩
theorem whole_eq {size t : Int} {x : Sp} (hs : 1 ≤ size) (h1 : 0 ≤ x.1) (h2 : x.1 < x.2) (h3 : x.2 ≤ size) (ht : 0 ≤ t) :
    whole size t x * (x.2 - x.1) + max 0 (t - whole size t x * size - x.1) = t / size * (x.2 - x.1) + max 0 (min x.2 (t % size) - x.1) := by
  have m1 := Int.emod_nonneg t (show size ≠ 0 by omega)
  have m2 := Int.emod_lt_of_pos t (show 0 < size by omega)
  have m3 := Int.emod_add_mul_ediv t size
  have q0 : 0 ≤ t / size := Int.ediv_nonneg ht (by omega)
  by_cases c : x.2 ≤ t % size
  · have hw : whole size t x = t / size + 1 := by
      unfold whole
      have : 0 ≤ size * (t / size) := Int.mul_nonneg (by omega) q0
      rw [if_pos (by omega), (Int.ediv_eq_iff_of_pos (by omega)).2]
      rw [Int.mul_comm]; omega
    rw [hw, Int.add_mul, Int.add_mul, Int.mul_comm (t / size) size]
    omega
  · have hw : whole size t x = t / size := by
      unfold whole
      split
      · have e : (t - x.2) / size = t / size - 1 := by
          refine (Int.ediv_eq_iff_of_pos (by omega)).2 ?_
          rw [Int.sub_mul, Int.mul_comm (t / size) size]; omega
        omega
      · have : t / size = 0 := Int.ediv_eq_zero_of_lt ht (by omega)
        omega
    rw [hw, Int.mul_comm (t / size) size]
    omega
theorem cb_snoc {size t : Int} {l : List Sp} {x : Sp} (hs : 1 ≤ size) (h1 : 0 ≤ x.1) (h2 : x.1 < x.2) (h3 : x.2 ≤ size) (ht : 0 ≤ t) :
    cb size (l ++ [x]) t = cb size l t + whole size t x * (x.2 - x.1) + max 0 (t - whole size t x * size - x.1) := by
  have := whole_eq hs h1 h2 h3 ht
  unfold cb
  rw [cnt_snoc, cnt_snoc, Int.mul_add, show max 0 (min x.2 size - x.1) = x.2 - x.1 by omega]
  omega
theorem good_take {size e : Int} {l : List Sp} (h : good size e l = true) (k : Nat) : good size e (l.take k) = true := by
  rw [← List.take_append_drop k l] at h
  exact (good_append.1 h).1
end SpanM
end Go.Proofs.Ytpnahhpkaegeeaa

/- Plain mathematics for package num: no Go in sight. -/
set_option linter.unusedVariables false
namespace Go.Proofs.Ytpnahhpkaegeeaa
namespace NumM

/-- the greatest common divisor, of numbers from 0 on -/
def G (a b : Int) : Int := (Nat.gcd a.toNat b.toNat : Int)

theorem G_zero (a : Int) (h : 0 ≤ a) : G a 0 = a := by
  unfold G; simp; omega
theorem zero_G (a : Int) (h : 0 ≤ a) : G 0 a = a := by
  unfold G; simp; omega
theorem G_comm (a b : Int) : G a b = G b a := by
  unfold G; rw [Nat.gcd_comm]
theorem toNat_emod (a b : Int) (ha : 0 ≤ a) (hb : 0 ≤ b) : (a % b).toNat = a.toNat % b.toNat := by
  obtain ⟨m, rfl⟩ := Int.eq_ofNat_of_zero_le ha
  obtain ⟨n, rfl⟩ := Int.eq_ofNat_of_zero_le hb
  rw [← Int.natCast_emod, Int.toNat_natCast, Int.toNat_natCast, Int.toNat_natCast]
theorem G_step (a b : Int) (ha : 0 ≤ a) (hb : 0 ≤ b) : G b (a % b) = G a b := by
  unfold G
  rw [toNat_emod a b ha hb, Nat.gcd_comm a.toNat b.toNat]
  congr 1
  rw [Nat.gcd_comm b.toNat (a.toNat % b.toNat)]
  exact (Nat.gcd_rec b.toNat a.toNat).symm
theorem G_nonneg (a b : Int) : 0 ≤ G a b := by unfold G; omega
theorem G_pos (a b : Int) (h : 1 ≤ a) : 1 ≤ G a b := by
  unfold G
  have := Nat.gcd_pos_of_pos_left b.toNat (show 0 < a.toNat by omega)
  omega
theorem G_dvd_left (a b : Int) (ha : 0 ≤ a) : G a b ∣ a := by
  unfold G
  have := Int.ofNat_dvd.2 (Nat.gcd_dvd_left a.toNat b.toNat)
  rwa [Int.toNat_of_nonneg ha] at this
theorem G_dvd_right (a b : Int) (hb : 0 ≤ b) : G a b ∣ b := by
  rw [G_comm]; exact G_dvd_left b a hb
theorem dvd_G (a b d : Int) (ha : 0 ≤ a) (hb : 0 ≤ b) (h1 : d ∣ a) (h2 : d ∣ b) : d ∣ G a b := by
  unfold G
  apply Int.natAbs_dvd_natAbs.1
  rw [Int.natAbs_natCast]
  apply Nat.dvd_gcd
  · have := Int.natAbs_dvd_natAbs.2 h1; rwa [show a.natAbs = a.toNat by omega] at this
  · have := Int.natAbs_dvd_natAbs.2 h2; rwa [show b.natAbs = b.toNat by omega] at this
theorem G_le_left (a b : Int) (ha : 1 ≤ a) : G a b ≤ a := Int.le_of_dvd (by omega) (G_dvd_left a b (by omega))
theorem G_le_right (a b : Int) (hb : 1 ≤ b) : G a b ≤ b := Int.le_of_dvd (by omega) (G_dvd_right a b (by omega))
theorem G_le (a b m : Int) (ha : 0 ≤ a) (hb : 0 ≤ b) (h1 : a ≤ m) (h2 : b ≤ m) : G a b ≤ m := by
  by_cases h : a = 0
  · subst h; rw [zero_G b hb]; exact h2
  · exact Int.le_trans (G_le_left a b (by omega)) h1

/-- rounded down -/
theorem floor_neg (a b : Int) (hb : 1 ≤ b) (h : a.tmod b < 0) : a.tdiv b - 1 = a / b := by
  have h0 : a < 0 := by
    rcases Int.lt_or_le a 0 with h1 | h1
    · exact h1
    · have := Int.tmod_nonneg b h1; omega
  have e1 := Int.mul_tdiv_add_tmod a b
  have lb := Int.lt_tmod_of_pos a (show 0 < b by omega)
  have : a / b = a.tdiv b - 1 := by
    refine Int.ediv_eq_iff_of_pos (by omega) |>.2 ?_
    constructor
    · rw [Int.sub_mul]; rw [Int.mul_comm] at e1; omega
    · rw [Int.mul_comm] at e1; rw [Int.sub_mul]; omega
  omega
theorem floor_pos (a b : Int) (hb : 1 ≤ b) (h : ¬ a.tmod b < 0) : a.tdiv b = a / b := by
  have e1 := Int.mul_tdiv_add_tmod a b
  have ub := Int.tmod_lt_of_pos a (show 0 < b by omega)
  refine ((Int.ediv_eq_iff_of_pos (by omega)).2 ?_).symm
  constructor
  · rw [Int.mul_comm] at e1; omega
  · rw [Int.mul_comm] at e1; omega
theorem tdiv_bd (a b M : Int) (hb : 1 ≤ b) (h1 : -M ≤ a) (h2 : a ≤ M) : -M ≤ a.tdiv b ∧ a.tdiv b ≤ M := by
  have h := Int.natAbs_tdiv a b
  have h3 : a.natAbs / b.natAbs ≤ a.natAbs := Nat.div_le_self _ _
  have e : (a.tdiv b).natAbs = a.natAbs / b.natAbs := h
  omega
theorem ediv_bd (a b M : Int) (hb : 1 ≤ b) (h1 : -M ≤ a) (h2 : a ≤ M) (h3 : 0 ≤ M) : -M ≤ a / b ∧ a / b ≤ M := by
  constructor
  · have : -M * b ≤ a := by
      have := Int.mul_le_mul_of_nonneg_left hb h3
      rw [Int.neg_mul]; omega
    exact Int.le_ediv_of_mul_le (by omega) this
  · rcases Int.lt_or_le a 0 with h | h
    · have := Int.ediv_neg_of_neg_of_pos h (show 0 < b by omega); omega
    · exact Int.le_trans (Int.ediv_le_self b h) h2

/-- What holds at the head of each round of Euclid's way with cofactors: of the numbers A and B that were handed in. -/
structure Eu (A B a b x y u v : Int) : Prop where
  ha : 1 ≤ a
  hb : 0 ≤ b
  hg : G a b = G A B
  e1 : x * A + y * B = a
  sgn : ∃ s : Int, (s = 1 ∨ s = -1) ∧ 0 ≤ s * x ∧ s * u ≤ 0 ∧ s * y ≤ 0 ∧ 0 ≤ s * v ∧ s * (x * b - u * a) = B ∧ s * (v * a - y * b) = A
  e2 : u * A + v * B = b
  bx : -B ≤ x * G A B ∧ x * G A B ≤ B
  by' : -A ≤ y * G A B ∧ y * G A B ≤ A

theorem Eu.start (A B : Int) (hA : 1 ≤ A) (hB : 1 ≤ B) : Eu A B A B 1 0 0 1 where
  ha := hA
  hb := by omega
  hg := rfl
  e1 := by omega
  e2 := by omega
  sgn := ⟨1, .inl rfl, by omega, by omega, by omega, by omega, by omega, by omega⟩
  bx := by have := G_le_right A B hB; have := G_nonneg A B; omega
  by' := by omega

/-- bounds of the cofactors while b is not 0 -/
theorem bd_of (s x u a b B : Int) (hs : s = 1 ∨ s = -1) (h1 : 0 ≤ s * x) (h2 : s * u ≤ 0) (ha : 1 ≤ a) (hb : 0 ≤ b) (h : s * (x * b - u * a) = B) :
    (-B ≤ u * a ∧ u * a ≤ B) ∧ (-B ≤ x * b ∧ x * b ≤ B) ∧ 0 ≤ B := by
  rcases hs with rfl | rfl
  · have p1 : 0 ≤ x * b := Int.mul_nonneg (by omega) hb
    have p2 : 0 ≤ (-u) * a := Int.mul_nonneg (by omega) (by omega)
    rw [Int.neg_mul] at p2
    omega
  · have p1 : 0 ≤ (-x) * b := Int.mul_nonneg (by omega) hb
    have p2 : 0 ≤ u * a := Int.mul_nonneg (by omega) (by omega)
    rw [Int.neg_mul] at p1
    omega
theorem le_of_mul (u a B : Int) (ha : 1 ≤ a) (hB : 0 ≤ B) (h1 : -B ≤ u * a) (h2 : u * a ≤ B) : -B ≤ u ∧ u ≤ B := by
  constructor
  · rcases Int.lt_or_le u 0 with h | h
    · have := Int.mul_le_mul_of_nonneg_left ha (show 0 ≤ -u by omega)
      simp only [Int.neg_mul] at this; omega
    · omega
  · rcases Int.lt_or_le u 0 with h | h
    · omega
    · have := Int.mul_le_mul_of_nonneg_left ha h
      omega
theorem Eu.bdu {A B a b x y u v : Int} (h : Eu A B a b x y u v) : (-B ≤ u ∧ u ≤ B) ∧ (-A ≤ v ∧ v ≤ A) ∧ (-B ≤ u * a ∧ u * a ≤ B) ∧ (-A ≤ v * a ∧ v * a ≤ A) := by
  obtain ⟨s, hs, h1, h2, h3, h4, h5, h6⟩ := h.sgn
  have k := bd_of s x u a b B hs h1 h2 h.ha h.hb h5
  have h7 : s * (v * a - y * b) = (-s) * (y * b - v * a) := by rw [← Int.neg_sub, Int.mul_neg, Int.neg_mul]
  have k2 := bd_of (-s) y v a b A (by omega) (by rw [Int.neg_mul]; omega) (by rw [Int.neg_mul]; omega) h.ha h.hb (by rw [← h7]; exact h6)
  exact ⟨le_of_mul u a B h.ha k.2.2 k.1.1 k.1.2, le_of_mul v a A h.ha k2.2.2 k2.1.1 k2.1.2, k.1, k2.1⟩
theorem Eu.bdx {A B a b x y u v : Int} (h : Eu A B a b x y u v) (hA : 1 ≤ A) (hB : 1 ≤ B) : (-B ≤ x ∧ x ≤ B) ∧ (-A ≤ y ∧ y ≤ A) :=
  ⟨le_of_mul x _ B (G_pos A B hA) (by omega) h.bx.1 h.bx.2, le_of_mul y _ A (G_pos A B hA) (by omega) h.by'.1 h.by'.2⟩

theorem shrink (u a g B : Int) (hg : 1 ≤ g) (hga : g ≤ a) (h : -B ≤ u * a ∧ u * a ≤ B) : -B ≤ u * g ∧ u * g ≤ B := by
  rcases Int.lt_or_le u 0 with h0 | h0
  · have h1 := Int.mul_le_mul_of_nonneg_left hga (show 0 ≤ -u by omega)
    have h2 := Int.mul_nonneg (show 0 ≤ -u by omega) (show 0 ≤ g by omega)
    rw [Int.neg_mul, Int.neg_mul] at h1
    rw [Int.neg_mul] at h2
    omega
  · have h1 := Int.mul_le_mul_of_nonneg_left hga h0
    have h2 := Int.mul_nonneg h0 (show 0 ≤ g by omega)
    omega

theorem Eu.step {A B a b x y u v : Int} (h : Eu A B a b x y u v) (hA : 1 ≤ A) (hB : 1 ≤ B) (hb : b ≠ 0) :
    Eu A B b (a % b) u v (x - a / b * u) (y - a / b * v) := by
  have hb1 : 1 ≤ b := by have := h.hb; omega
  have em := Int.emod_add_mul_ediv a b
  have em1 : a % b = a - b * (a / b) := by omega
  have q0 : 0 ≤ a / b := Int.ediv_nonneg (by have := h.ha; omega) (by omega)
  have gg : G A B ≤ a := by rw [← h.hg]; exact G_le_left a b h.ha
  have gp := G_pos A B hA
  have bu := h.bdu
  obtain ⟨s, hs, h1, h2, h3, h4, h5, h6⟩ := h.sgn
  have e1 := h.e1
  have e2 := h.e2
  refine ⟨hb1, Int.emod_nonneg a hb, ?_, e2, ⟨-s, by omega, by rw [Int.neg_mul]; omega, ?_, by rw [Int.neg_mul]; omega, ?_, ?_, ?_⟩, ?_, shrink _ _ _ _ gp gg bu.2.2.1, shrink _ _ _ _ gp gg bu.2.2.2⟩
  · rw [G_step a b (by have := h.ha; omega) h.hb]; exact h.hg
  · rw [Int.neg_mul, Int.mul_sub]
    have : s * (a / b * u) = a / b * (s * u) := by ac_rfl
    have := Int.mul_nonneg q0 (show 0 ≤ -(s * u) by omega)
    rw [Int.mul_neg] at this; omega
  · rw [Int.neg_mul, Int.mul_sub]
    have : s * (a / b * v) = a / b * (s * v) := by ac_rfl
    have := Int.mul_nonneg q0 h4
    omega
  · rw [em1, ← h5]
    generalize a / b = q
    rw [Int.neg_mul, ← Int.mul_neg]; congr 1
    simp only [Int.mul_sub, Int.sub_mul]
    have : q * u * b = u * (b * q) := by ac_rfl
    omega
  · rw [em1, ← h6]
    generalize a / b = q
    rw [Int.neg_mul, ← Int.mul_neg]; congr 1
    simp only [Int.mul_sub, Int.sub_mul]
    have : q * v * b = v * (b * q) := by ac_rfl
    omega
  · rw [em1, ← e1, ← e2]
    generalize (x * A + y * B) / (u * A + v * B) = q
    simp only [Int.sub_mul, Int.add_mul]
    have t1 : q * u * A = u * A * q := by ac_rfl
    have t2 : q * v * B = v * B * q := by ac_rfl
    omega

/-- what Parts does with the cofactors -/
theorem parts_ok {A B x y u v : Int} (hA : 1 ≤ A) (hB : 1 ≤ B) (h : Eu A B (G A B) 0 x y u v) :
    1 ≤ B / G A B ∧ B / G A B ≤ B ∧ 1 ≤ A / G A B ∧ A / G A B ≤ A ∧ -1 ≤ x / (B / G A B) ∧ x / (B / G A B) ≤ 1 ∧
    0 ≤ x - x / (B / G A B) * (B / G A B) ∧ x - x / (B / G A B) * (B / G A B) < B / G A B ∧
    (x - x / (B / G A B) * (B / G A B)) * A + (y + x / (B / G A B) * (A / G A B)) * B = G A B ∧
    -A ≤ x / (B / G A B) * (A / G A B) ∧ x / (B / G A B) * (A / G A B) ≤ A := by
  have gp := G_pos A B hA
  have e := h.e1
  have bx := h.bx
  obtain ⟨p, hp⟩ := G_dvd_left A B (by omega)
  obtain ⟨q, hq⟩ := G_dvd_right A B (by omega)
  generalize G A B = g at *
  have hp1 : A / g = p := by rw [hp]; exact Int.mul_ediv_cancel_left p (by omega)
  have hq1 : B / g = q := by rw [hq]; exact Int.mul_ediv_cancel_left q (by omega)
  rw [hp1, hq1]
  have p1 : 1 ≤ p := by
    rcases Int.lt_or_le p 1 with hh | hh
    · have := Int.mul_nonneg (show 0 ≤ g by omega) (show 0 ≤ -p by omega)
      rw [Int.mul_neg] at this; omega
    · exact hh
  have q1 : 1 ≤ q := by
    rcases Int.lt_or_le q 1 with hh | hh
    · have := Int.mul_nonneg (show 0 ≤ g by omega) (show 0 ≤ -q by omega)
      rw [Int.mul_neg] at this; omega
    · exact hh
  have pA : p ≤ A := by rw [hp]; have := Int.mul_le_mul_of_nonneg_right gp (show 0 ≤ p by omega); omega
  have qB : q ≤ B := by rw [hq]; have := Int.mul_le_mul_of_nonneg_right gp (show 0 ≤ q by omega); omega
  have x2 : x ≤ q := by
    have : x * g ≤ q * g := by rw [Int.mul_comm q g, ← hq]; exact bx.2
    exact Int.le_of_mul_le_mul_right this (by omega)
  have x1 : -q ≤ x := by
    have : (-q) * g ≤ x * g := by rw [Int.neg_mul, Int.mul_comm q g, ← hq]; exact bx.1
    exact Int.le_of_mul_le_mul_right this (by omega)
  have t1 : -1 ≤ x / q := Int.le_ediv_of_mul_le (by omega) (by omega)
  have t2 : x / q ≤ 1 := by
    have : x / q < 2 := Int.ediv_lt_of_lt_mul (by omega) (by omega)
    omega
  have em := Int.emod_add_mul_ediv x q
  have em1 := Int.emod_nonneg x (show q ≠ 0 by omega)
  have em2 := Int.emod_lt_of_pos x (show 0 < q by omega)
  rw [Int.mul_comm] at em
  refine ⟨q1, qB, p1, pA, t1, t2, by omega, by omega, ?_, ?_, ?_⟩
  · generalize x / q = t at *
    have k : q * A = p * B := by rw [hp, hq]; ac_rfl
    simp only [Int.sub_mul, Int.add_mul]
    have k2 : t * q * A = t * (q * A) := by ac_rfl
    have k3 : t * p * B = t * (p * B) := by ac_rfl
    rw [k2, k3, k]; omega
  · have : x / q = -1 ∨ x / q = 0 ∨ x / q = 1 := by omega
    rcases this with h | h | h <;> rw [h] <;> omega
  · have : x / q = -1 ∨ x / q = 0 ∨ x / q = 1 := by omega
    rcases this with h | h | h <;> rw [h] <;> omega

theorem small_mul (a b M N : Int) (h1 : -M ≤ a) (h2 : a ≤ M) (h3 : -N ≤ b) (h4 : b ≤ N) (hM : 0 ≤ M) (hN : 0 ≤ N) : -(M * N) ≤ a * b ∧ a * b ≤ M * N := by
  have e : (a * b).natAbs ≤ M.natAbs * N.natAbs := by
    rw [Int.natAbs_mul]; exact Nat.mul_le_mul (by omega) (by omega)
  have e2 : M.natAbs * N.natAbs = (M * N).natAbs := (Int.natAbs_mul M N).symm
  have := Int.mul_nonneg hM hN
  omega

/-- the least number that leaves a by m and b by n, where there is one -/
structure Met (a m b n t : Int) : Prop where
  lo : 0 ≤ t
  hi : t < m / G m n * n
  ma : t % m = a
  nb : t % n = b

theorem exact_div (c g : Int) (hg : 1 ≤ g) (h : c.tmod g = 0) : c.tdiv g * g = c := by
  have := Int.mul_tdiv_add_tmod c g; rw [Int.mul_comm]; omega

theorem meet_ok {a m b n x y u v : Int} (hm : 1 ≤ m) (hn : 1 ≤ n) (ha : 0 ≤ a) (ha2 : a < m) (hb : 0 ≤ b) (hb2 : b < n)
    (h : Eu m n (G m n) 0 x y u v) (hc : (b - a).tmod (G m n) = 0) :
    Met a m b n (a + (b - a).tdiv (G m n) * x % (n / G m n) * m) ∧ 0 ≤ (b - a).tdiv (G m n) * x % (n / G m n) ∧ (b - a).tdiv (G m n) * x % (n / G m n) < n / G m n := by
  have gp := G_pos m n hm
  have e := h.e1
  have ex := exact_div _ _ gp hc
  obtain ⟨p, hp⟩ := G_dvd_left m n (by omega)
  obtain ⟨q, hq⟩ := G_dvd_right m n (by omega)
  generalize hgg : G m n = g at *
  have hp1 : m / g = p := by rw [hp]; exact Int.mul_ediv_cancel_left p (by omega)
  have hq1 : n / g = q := by rw [hq]; exact Int.mul_ediv_cancel_left q (by omega)
  have q1 : 1 ≤ q := by
    rcases Int.lt_or_le q 1 with hh | hh
    · have := Int.mul_nonneg (show 0 ≤ g by omega) (show 0 ≤ -q by omega)
      rw [Int.mul_neg] at this; omega
    · exact hh
  rw [hq1]
  generalize (b - a).tdiv g = k at *
  have em := Int.emod_add_mul_ediv (k * x) q
  have em1 := Int.emod_nonneg (k * x) (show q ≠ 0 by omega)
  have em2 := Int.emod_lt_of_pos (k * x) (show 0 < q by omega)
  generalize hz : k * x / q = z at *
  generalize hr : k * x % q = r at *
  have tm : 0 ≤ r * m := Int.mul_nonneg em1 (by omega)
  refine ⟨⟨by omega, ?_, ?_, ?_⟩, em1, em2⟩
  · rw [hgg, hp1]
    have : r * m ≤ (q - 1) * m := Int.mul_le_mul_of_nonneg_right (by omega) (by omega)
    have e3 : p * n = q * m := by rw [hp, hq]; ac_rfl
    rw [Int.sub_mul] at this; omega
  · rw [Int.add_mul_emod_self_right]; exact Int.emod_eq_of_lt ha ha2
  · -- a + r m = a + (kx - q z) m = a + k (g - y n) - q z m
    have e4 : a + r * m = b + n * (-(k * y) - z * p) := by
      have r1 : r = k * x - q * z := by omega
      have t1 : (k * x - q * z) * m = k * (x * m) - z * (q * m) := by rw [Int.sub_mul]; congr 1 <;> ac_rfl
      have t2 : x * m = g - y * n := by omega
      have t3 : q * m = p * n := by rw [hp, hq]; ac_rfl
      rw [r1, t1, t2, t3, Int.mul_sub, Int.mul_sub, Int.mul_neg]
      have t4 : k * (y * n) = n * (k * y) := by ac_rfl
      have t5 : z * (p * n) = n * (z * p) := by ac_rfl
      omega
    rw [e4, Int.add_mul_emod_self_left]; exact Int.emod_eq_of_lt hb hb2

/-- a number from 1 to 2^40 -/
def Ok1 (x : Int) : Prop := 1 ≤ x ∧ x ≤ 1099511627776
/-- the least common multiple, one number after another; none: it is more than 2^40 -/
def lcmFrom (all : Int) : List Int → Option Int
  | [] => some all
  | x :: r => if 1099511627776 / all < x / G all x then none else lcmFrom (all * (x / G all x)) r
theorem lcm_step_bd (all x : Int) (h1 : 1 ≤ all) (hx : 1 ≤ x) (hx2 : x ≤ 1099511627776) (h : ¬ 1099511627776 / all < x / G all x) :
    1 ≤ all * (x / G all x) ∧ all * (x / G all x) ≤ 1099511627776 := by
  have gp := G_pos all x h1
  have gl := G_le_right all x hx
  have q1 : 1 ≤ x / G all x := Int.le_ediv_of_mul_le (by omega) (by omega)
  generalize x / G all x = q at *
  have k1 := Int.ediv_mul_le 1099511627776 (show all ≠ 0 by omega)
  have k2 : q * all ≤ 1099511627776 / all * all := Int.mul_le_mul_of_nonneg_right (by omega) (by omega)
  have k3 := Int.mul_le_mul_of_nonneg_left q1 (show 0 ≤ all by omega)
  rw [Int.mul_comm q all] at k2
  omega
theorem drop_get (zs : List Int) (k : Nat) (h : k < zs.length) : zs.drop k = zs.getD k 0 :: zs.drop (k + 1) := by
  rw [List.drop_eq_getElem_cons h]; simp [List.getD, h]
end NumM
end Go.Proofs.Ytpnahhpkaegeeaa

/- Plain mathematics for package num, continued: multiples, uniqueness. -/
set_option linter.unusedVariables false
namespace Go.Proofs.Ytpnahhpkaegeeaa
namespace NumM

theorem nat_dvd_of (d x : Int) (hd : 0 ≤ d) (h : d ∣ x) : d.toNat ∣ x.natAbs := by
  have := Int.natAbs_dvd_natAbs.2 h
  rwa [show d.natAbs = d.toNat by omega] at this

/-- whatever both divide is divided by m / G m n * n -/
theorem lcm_dvd (m n d : Int) (hm : 1 ≤ m) (hn : 1 ≤ n) (h1 : m ∣ d) (h2 : n ∣ d) : m / G m n * n ∣ d := by
  have k := Nat.lcm_dvd (nat_dvd_of m d (by omega) h1) (nat_dvd_of n d (by omega) h2)
  have e : (m / G m n * n).natAbs = Nat.lcm m.toNat n.toNat := by
    obtain ⟨a, rfl⟩ := Int.eq_ofNat_of_zero_le (show 0 ≤ m by omega)
    obtain ⟨b, rfl⟩ := Int.eq_ofNat_of_zero_le (show 0 ≤ n by omega)
    unfold G
    simp only [Int.toNat_natCast]
    rw [← Int.natCast_ediv, ← Int.natCast_mul, Int.natAbs_natCast]
    unfold Nat.lcm
    exact Nat.div_mul_right_comm (Nat.gcd_dvd_left a b) b
  apply Int.natAbs_dvd_natAbs.1
  rw [e]; exact k

theorem step_eq (m n : Int) (hm : 1 ≤ m) (hn : 1 ≤ n) : m / G m n * n = m * (n / G m n) := by
  obtain ⟨p, hp⟩ := G_dvd_left m n (by omega)
  obtain ⟨q, hq⟩ := G_dvd_right m n (by omega)
  have gp := G_pos m n hm
  generalize G m n = g at *
  have hp1 : m / g = p := by rw [hp]; exact Int.mul_ediv_cancel_left p (by omega)
  have hq1 : n / g = q := by rw [hq]; exact Int.mul_ediv_cancel_left q (by omega)
  rw [hp1, hq1, hp, hq]; ac_rfl

/-- b divides k times a: then its share divides k -/
theorem share_dvd (a b k : Int) (ha : 1 ≤ a) (hb : 1 ≤ b) (h : b ∣ k * a) : b / G a b ∣ k := by
  have h1 := lcm_dvd a b (k * a) ha hb (Int.dvd_mul_left k a) h
  rw [step_eq a b ha hb, Int.mul_comm k a] at h1
  exact Int.dvd_of_mul_dvd_mul_left (by omega) h1

theorem two_mod (s t m : Int) (h : s % m = t % m) : m ∣ s - t := Int.dvd_of_emod_eq_zero (Int.emod_eq_emod_iff_emod_sub_eq_zero.1 h)

/-- any two that leave a by m and b by n lie so far apart -/
theorem Met.far {a m b n t : Int} (h : Met a m b n t) (hm : 1 ≤ m) (hn : 1 ≤ n) (s : Int) (h1 : s % m = a) (h2 : s % n = b) : m / G m n * n ∣ s - t :=
  lcm_dvd m n (s - t) hm hn (two_mod s t m (by rw [h1, h.ma])) (two_mod s t n (by rw [h2, h.nb]))

theorem Met.least {a m b n t : Int} (h : Met a m b n t) (hm : 1 ≤ m) (hn : 1 ≤ n) (s : Int) (hs : 0 ≤ s) (h1 : s % m = a) (h2 : s % n = b) : t ≤ s := by
  obtain ⟨k, hk⟩ := h.far hm hn s h1 h2
  have := h.hi
  have := h.lo
  generalize m / G m n * n = L at *
  rcases Int.lt_or_le k 0 with h3 | h3
  · have : L * k ≤ L * (-1) := Int.mul_le_mul_of_nonneg_left (by omega) (by omega)
    omega
  · have := Int.mul_nonneg (show 0 ≤ L by omega) h3
    omega

/-- where it is no multiple of what they share, there is none -/
theorem none_of (a m b n s : Int) (hm : 1 ≤ m) (hn : 1 ≤ n) (hc : (b - a).tmod (G m n) ≠ 0) (h1 : s % m = a) (h2 : s % n = b) : False := by
  apply hc
  have d1 : G m n ∣ s - a := by
    have : m ∣ s - a := by rw [← h1]; exact Int.dvd_self_sub_emod
    exact Int.dvd_trans (G_dvd_left m n (by omega)) this
  have d2 : G m n ∣ s - b := by
    have : n ∣ s - b := by rw [← h2]; exact Int.dvd_self_sub_emod
    exact Int.dvd_trans (G_dvd_right m n (by omega)) this
  have d3 : G m n ∣ b - a := by
    have := Int.dvd_sub d1 d2
    rwa [show s - a - (s - b) = b - a by omega] at this
  exact Int.tmod_eq_zero_of_dvd d3

/-- the rests by what they share are one just if it divides the difference -/
theorem mod_iff (a b g : Int) (hg : 1 ≤ g) : (b - a).tmod g = 0 ↔ a % g = b % g := by
  constructor
  · intro h
    have d : g ∣ b - a := Int.dvd_of_tmod_eq_zero h
    exact (Int.emod_eq_emod_iff_emod_sub_eq_zero.2 (Int.emod_eq_zero_of_dvd d)).symm
  · intro h
    exact Int.tmod_eq_zero_of_dvd (two_mod b a g h.symm)

theorem G_sub (a b : Int) (hb : 0 ≤ b) (h : b ≤ a) : G (a - b) b = G a b := by
  unfold G
  rw [show (a - b).toNat = a.toNat - b.toNat by omega]
  congr 1
  exact Nat.gcd_sub_self_left (by omega)
theorem dvd_of_mod (d a : Int) (h : a % d = 0) : d ∣ a := Int.dvd_of_emod_eq_zero h

/-- a times b by m, by doubling -/
theorem muldiv_step (a b m : Int) (ha : 0 ≤ a) (ham : a < m) (hb : 0 ≤ b) (X : Int) (hX : X = if b % 2 = 1 then a else 0) :
    2 * (a * (b / 2) / m) + (2 * (a * (b / 2) % m) + X) / m = a * b / m ∧ (2 * (a * (b / 2) % m) + X) % m = a * b % m := by
  have e1 := Int.emod_add_mul_ediv (a * (b / 2)) m
  have e2 : a * b = m * (2 * (a * (b / 2) / m)) + (2 * (a * (b / 2) % m) + X) := by
    have hb2 : b = 2 * (b / 2) + b % 2 := by omega
    have h3 : a * b = 2 * (a * (b / 2)) + a * (b % 2) := by
      rw [show a * b = a * (2 * (b / 2) + b % 2) by rw [← hb2], Int.mul_add]; congr 1; ac_rfl
    have h4 : a * (b % 2) = X := by
      rw [hX]; split
      · rename_i h; rw [h]; omega
      · rw [show b % 2 = 0 by omega]; omega
    rw [h3, h4]
    have h5 : m * (2 * (a * (b / 2) / m)) = 2 * (m * (a * (b / 2) / m)) := by ac_rfl
    omega
  rw [e2]
  constructor
  · rw [Int.add_comm (m * _), Int.add_mul_ediv_left _ _ (by omega)]; omega
  · rw [Int.mul_add_emod_self_left]
theorem muldiv_le (a b m : Int) (ha : 0 ≤ a) (ham : a < m) (hb : 0 ≤ b) : 0 ≤ a * b / m ∧ a * b / m ≤ b := by
  constructor
  · exact Int.ediv_nonneg (Int.mul_nonneg ha hb) (by omega)
  · have : a * b ≤ m * b := Int.mul_le_mul_of_nonneg_right (by omega) hb
    have h2 := Int.ediv_le_ediv (show 0 < m by omega) this
    rwa [Int.mul_ediv_cancel_left b (by omega)] at h2
end NumM
end Go.Proofs.Ytpnahhpkaegeeaa

/- The least common multiple of a list: what divides it, and what it divides. -/
set_option linter.unusedVariables false
namespace Go.Proofs.Ytpnahhpkaegeeaa
namespace NumM
/-- the least common multiple, with no bound -/
def lc (all : Int) : List Int → Int
  | [] => all
  | x :: r => lc (all * (x / G all x)) r
theorem step_pos (a x : Int) (ha : 1 ≤ a) (hx : 1 ≤ x) : 1 ≤ a * (x / G a x) := by
  have gp := G_pos a x ha
  have gl := G_le_right a x hx
  have q1 : 1 ≤ x / G a x := Int.le_ediv_of_mul_le (by omega) (by omega)
  have := Int.mul_le_mul_of_nonneg_left q1 (show 0 ≤ a by omega)
  omega
theorem step_dvd (a x d : Int) (ha : 1 ≤ a) (hx : 1 ≤ x) : a * (x / G a x) ∣ d ↔ a ∣ d ∧ x ∣ d := by
  constructor
  · intro h
    refine ⟨Int.dvd_trans (Int.dvd_mul_right _ _) h, ?_⟩
    refine Int.dvd_trans ?_ h
    rw [← step_eq a x ha hx]
    exact Int.dvd_mul_left _ _
  · rintro ⟨h1, h2⟩
    rw [← step_eq a x ha hx]
    exact lcm_dvd a x d ha hx h1 h2
theorem lc_pos (l : List Int) : ∀ a : Int, 1 ≤ a → (∀ x ∈ l, 1 ≤ x) → 1 ≤ lc a l := by
  induction l with
  | nil => intro a h _; exact h
  | cons x r ih => intro a h hx; exact ih _ (step_pos a x h (hx x (by simp))) (fun y hy => hx y (by simp [hy]))
theorem lc_dvd (l : List Int) (d : Int) : ∀ a : Int, 1 ≤ a → (∀ x ∈ l, 1 ≤ x) → (lc a l ∣ d ↔ a ∣ d ∧ ∀ x ∈ l, x ∣ d) := by
  induction l with
  | nil => intro a h _; simp [lc]
  | cons x r ih =>
    intro a h hx
    rw [lc, ih _ (step_pos a x h (hx x (by simp))) (fun y hy => hx y (by simp [hy])), step_dvd a x d h (hx x (by simp))]
    simp [and_assoc]
theorem lcmFrom_eq (l : List Int) : ∀ a : Int, 1 ≤ a → a ≤ 1099511627776 → (∀ x ∈ l, Ok1 x) → lcmFrom a l = if lc a l ≤ 1099511627776 then some (lc a l) else none := by
  induction l with
  | nil => intro a h h2 _; simp [lcmFrom, lc, h2]
  | cons x r ih =>
    intro a h h2 hx
    have o := hx x (by simp)
    have hp := fun y hy => (hx y (List.mem_cons_of_mem x hy)).1
    rw [lcmFrom, lc]
    by_cases hf : 1099511627776 / a < x / G a x
    · rw [if_pos hf]
      have h3 : 1099511627776 < a * (x / G a x) := by
        generalize x / G a x = q at *
        have k1 := Int.emod_add_mul_ediv 1099511627776 a
        have k2 := Int.emod_lt_of_pos 1099511627776 (show 0 < a by omega)
        have k3 : a * (1099511627776 / a + 1) ≤ a * q := Int.mul_le_mul_of_nonneg_left (by omega) (by omega)
        rw [Int.mul_add] at k3
        omega
      have h4 : a * (x / G a x) ≤ lc (a * (x / G a x)) r :=
        Int.le_of_dvd (by have := lc_pos r _ (step_pos a x h o.1) hp; omega) ((lc_dvd r _ _ (step_pos a x h o.1) hp).1 (Int.dvd_refl _)).1
      rw [if_neg (by omega)]
    · rw [if_neg hf]
      have bd := lcm_step_bd a x h o.1 o.2 hf
      exact ih _ bd.1 bd.2 (fun y hy => hx y (by simp [hy]))
/-- it is no matter in what order they stand, or how often -/
theorem lc_same (l k : List Int) (hl : ∀ x ∈ l, 1 ≤ x) (h : ∀ x, x ∈ l ↔ x ∈ k) : lc 1 l = lc 1 k := by
  have hk : ∀ x ∈ k, 1 ≤ x := fun x hx => hl x ((h x).2 hx)
  have p1 := lc_pos l 1 (by omega) hl
  have p2 := lc_pos k 1 (by omega) hk
  refine Int.dvd_antisymm (by omega) (by omega) ?_ ?_
  · exact (lc_dvd l _ 1 (by omega) hl).2 ⟨Int.one_dvd _, fun x hx => ((lc_dvd k _ 1 (by omega) hk).1 (Int.dvd_refl _)).2 x ((h x).1 hx)⟩
  · exact (lc_dvd k _ 1 (by omega) hk).2 ⟨Int.one_dvd _, fun x hx => ((lc_dvd l _ 1 (by omega) hl).1 (Int.dvd_refl _)).2 x ((h x).2 hx)⟩
theorem lc_two (x y : Int) (hx : 1 ≤ x) (hy : 1 ≤ y) : lc 1 [x, y] * G x y = x * y := by
  have g1 : G 1 x = 1 := by
    have := G_pos 1 x (by omega); have := G_le_left 1 x (by omega); omega
  have e : lc 1 [x, y] = x * (y / G x y) := by
    simp [lc, g1]
  rw [e, Int.mul_assoc]
  have gp := G_pos x y hx
  rw [Int.ediv_mul_cancel (G_dvd_right x y (by omega))]
end NumM
end Go.Proofs.Ytpnahhpkaegeeaa

/- Plain mathematics of how much time there is. -/
set_option linter.unusedVariables false
namespace Go.Proofs.Ytpnahhpkaegeeaa
open SpanM
namespace SupM
theorem cb_shiftk {size : Int} {l : List Sp} (hs : 1 ≤ size) (t k : Int) : cb size l (t + size * k) = cb size l t + k * cnt l size := by
  unfold cb
  rw [Int.add_mul_emod_self_left, Int.add_mul_ediv_left _ _ (by omega), Int.add_mul]
  omega
theorem cb_shift {size : Int} {l : List Sp} (hs : 1 ≤ size) (t : Int) : cb size l (t + size) = cb size l t + cnt l size := by
  have := cb_shiftk (l := l) hs t 1
  rw [Int.mul_one, Int.one_mul] at this
  exact this
theorem cb_one {size t : Int} {l : List Sp} (hs : 1 ≤ size) (hg : good size (-1) l = true) (ht : 0 ≤ t) : cb size l (t + 1) = cb size l t + SpanM.one (mem l (t % size)) := by
  have e1 := cb_num hs hg (t.toNat + 1)
  have e2 := cb_num hs hg t.toNat
  rw [show ((t.toNat + 1 : Nat) : Int) = t + 1 by omega] at e1
  rw [Int.toNat_of_nonneg ht] at e2
  rw [e1, e2, num, Int.toNat_of_nonneg ht]
theorem cb_mono {size f t : Int} {l : List Sp} (hs : 1 ≤ size) (hg : good size (-1) l = true) (hf : 0 ≤ f) (ht : f ≤ t) : 0 ≤ cb size l t - cb size l f ∧ cb size l t - cb size l f ≤ t - f := by
  have e1 := cb_num hs hg t.toNat
  have e2 := cb_num hs hg f.toNat
  rw [Int.toNat_of_nonneg (by omega)] at e1 e2
  rw [e1, e2]
  have := num_bd (fun u => mem l (u % size)) f.toNat t.toNat (by omega)
  omega
theorem cb_zero {size : Int} {l : List Sp} (hg : good size (-1) l = true) : cb size l 0 = 0 := by
  unfold cb
  rw [Int.zero_ediv, Int.zero_emod, cnt_zero hg (by omega)]; omega
theorem cb_pos {size t : Int} {l : List Sp} (hs : 1 ≤ size) (hg : good size (-1) l = true) (ht : 0 ≤ t) : 0 ≤ cb size l t ∧ cb size l t ≤ t := by
  have := cb_mono hs hg (Int.le_refl 0) ht
  rw [cb_zero hg] at this
  omega
theorem cb_in {size t : Int} {l : List Sp} (hs : 1 ≤ size) (hg : good size (-1) l = true) (h0 : 0 ≤ t) (h1 : t ≤ size) : cb size l t = cnt l t := by
  by_cases c : t < size
  · unfold cb
    rw [Int.ediv_eq_zero_of_lt h0 c, Int.emod_eq_of_lt h0 c]; omega
  · obtain rfl : t = size := by omega
    have := cb_shift (l := l) hs 0
    rw [cb_zero hg] at this
    simpa using this

/-- how many there are among n from t on -/
def D (size : Int) (l : List Sp) (n t : Int) : Int := cb size l (t + n) - cb size l t
theorem D_shiftk {size n : Int} {l : List Sp} (hs : 1 ≤ size) (t k : Int) : D size l n (t + size * k) = D size l n t := by
  unfold D
  rw [show t + size * k + n = (t + n) + size * k by omega, cb_shiftk hs, cb_shiftk hs]; omega
theorem D_mod {size n : Int} {l : List Sp} (hs : 1 ≤ size) (t : Int) : D size l n (t % size) = D size l n t := by
  have := D_shiftk (l := l) (n := n) hs (t % size) (t / size)
  rw [Int.emod_add_mul_ediv] at this
  exact this.symm
theorem D_size {size n : Int} {l : List Sp} (hs : 1 ≤ size) (t : Int) : D size l n (t + size) = D size l n t := by
  have := D_shiftk (l := l) (n := n) hs t 1
  rw [Int.mul_one] at this
  exact this
theorem D_step {size n t : Int} {l : List Sp} (hs : 1 ≤ size) (hg : good size (-1) l = true) (hn : 0 ≤ n) (ht : 0 ≤ t) : D size l n (t + 1) = D size l n t + SpanM.one (mem l ((t + n) % size)) - SpanM.one (mem l (t % size)) := by
  unfold D
  rw [show t + 1 + n = (t + n) + 1 by omega, cb_one hs hg (by omega), cb_one hs hg ht]; omega
theorem D_bd {size n t : Int} {l : List Sp} (hs : 1 ≤ size) (hg : good size (-1) l = true) (hn : 0 ≤ n) (ht : 0 ≤ t) : 0 ≤ D size l n t ∧ D size l n t ≤ n := by
  have := cb_mono hs hg ht (show t ≤ t + n by omega)
  unfold D; omega
theorem D_add {size n m t : Int} {l : List Sp} : D size l (n + m) t = D size l n t + D size l m (t + n) := by
  unfold D
  rw [show t + (n + m) = t + n + m by omega]; omega
theorem D_mono {size n m t : Int} {l : List Sp} (hs : 1 ≤ size) (hg : good size (-1) l = true) (hn : 0 ≤ n) (ht : 0 ≤ t) (h : n ≤ m) : D size l n t ≤ D size l m t := by
  have e := D_add (size := size) (l := l) (n := n) (m := m - n) (t := t)
  rw [show n + (m - n) = m by omega] at e
  have := D_bd hs hg (n := m - n) (t := t + n) (by omega) (by omega)
  omega
theorem D_none {size n t : Int} : D size [] n t = 0 := by
  unfold D cb; simp [cnt]

theorem one_true : SpanM.one true = 1 := rfl
theorem one_false : SpanM.one false = 0 := rfl

/-- within a span later is less -/
theorem in_down {size n : Int} {l : List Sp} (hs : 1 ≤ size) (hg : good size (-1) l = true) (hn : 0 ≤ n) {t : Int} (ht : 0 ≤ t) (j : Nat) (h : ∀ u, t ≤ u → u < t + j → mem l (u % size) = true) : D size l n (t + j) ≤ D size l n t := by
  induction j with
  | zero => simp
  | succ j ih =>
    have a := ih fun u h1 h2 => h u h1 (by omega)
    have b := h (t + j) (by omega) (by omega)
    have c := D_step (t := t + j) hs hg hn (by omega)
    rw [b, one_true] at c
    have d := one_bd (mem l ((t + j + n) % size))
    rw [show t + ((j + 1 : Nat) : Int) = t + j + 1 by omega]
    omega
/-- within a gap later is more -/
theorem out_up {size n : Int} {l : List Sp} (hs : 1 ≤ size) (hg : good size (-1) l = true) (hn : 0 ≤ n) {t : Int} (ht : 0 ≤ t) (j : Nat) (h : ∀ u, t ≤ u → u < t + j → mem l (u % size) = false) : D size l n t ≤ D size l n (t + j) := by
  induction j with
  | zero => simp
  | succ j ih =>
    have a := ih fun u h1 h2 => h u h1 (by omega)
    have b := h (t + j) (by omega) (by omega)
    have c := D_step (t := t + j) hs hg hn (by omega)
    rw [b, one_false] at c
    have d := one_bd (mem l ((t + j + n) % size))
    rw [show t + ((j + 1 : Nat) : Int) = t + j + 1 by omega]
    omega
theorem mem_span {size : Int} {l : List Sp} {x : Sp} (hg : good size (-1) l = true) (hx : x ∈ l) {u : Int} (h1 : x.1 ≤ u) (h2 : u < x.2) : mem l (u % size) = true := by
  have := good_each hg x hx
  rw [Int.emod_eq_of_lt (by omega) (by omega), mem_iff]
  exact ⟨x, hx, h1, h2⟩
/-- ahead of a gap's time: where the gap begins -/
theorem back {l : List Sp} (k : Nat) : mem l k = false → ∃ e : Nat, e ≤ k ∧ (e = 0 ∨ ∃ x ∈ l, (e : Int) = x.2) ∧ ∀ u : Int, e ≤ u → u < k → mem l u = false := by
  induction k with
  | zero => intro _; exact ⟨0, Nat.le_refl _, .inl rfl, fun u h1 h2 => by omega⟩
  | succ k ih =>
    intro h
    cases hm : mem l k with
    | true =>
      obtain ⟨x, hx, h1, h2⟩ := (mem_iff _ _).1 hm
      refine ⟨k + 1, Nat.le_refl _, .inr ⟨x, hx, ?_⟩, fun u h1 h2 => by omega⟩
      by_cases c : ((k + 1 : Nat) : Int) < x.2
      · have : mem l ((k + 1 : Nat) : Int) = true := (mem_iff _ _).2 ⟨x, hx, by omega, c⟩
        rw [h] at this; cases this
      · omega
    | false =>
      obtain ⟨e, h1, h2, h3⟩ := ih hm
      refine ⟨e, by omega, h2, fun u a b => ?_⟩
      by_cases c : u < k
      · exact h3 u a c
      · obtain rfl : u = k := by omega
        exact hm
theorem least_gap {size n : Int} {l : List Sp} (hs : 1 ≤ size) (hg : good size (-1) l = true) (hn : 0 ≤ n) {t : Int} (ht : 0 ≤ t) (ht2 : t ≤ size) (hm : mem l t = false) :
    (D size l n 0 ≤ D size l n t ∧ ∀ u, 0 ≤ u → u < t → mem l u = false) ∨ ∃ x ∈ l, D size l n x.2 ≤ D size l n t := by
  obtain ⟨k, rfl⟩ : ∃ k : Nat, t = k := ⟨t.toNat, by omega⟩
  obtain ⟨e, h1, h2, h3⟩ := back k hm
  have hd : D size l n e ≤ D size l n k := by
    have := out_up (l := l) (t := (e : Int)) hs hg hn (by omega) (k - e) fun u a b => by
      rw [Int.emod_eq_of_lt (by omega) (by omega)]
      exact h3 u a (by omega)
    rwa [show (e : Int) + ((k - e : Nat) : Int) = k by omega] at this
  rcases h2 with rfl | ⟨x, hx, he⟩
  · exact .inl ⟨by simpa using hd, fun u a b => h3 u (by simpa using a) b⟩
  · exact .inr ⟨x, hx, by rw [← he]; exact hd⟩
theorem least_ex {size n : Int} {l : List Sp} (hs : 1 ≤ size) (hg : good size (-1) l = true) (hn : 0 ≤ n) (t : Int) : D size l n 0 ≤ D size l n t ∨ ∃ x ∈ l, D size l n x.2 ≤ D size l n t := by
  have m1 := Int.emod_nonneg t (show size ≠ 0 by omega)
  have m2 := Int.emod_lt_of_pos t (show 0 < size by omega)
  rw [← D_mod hs t]
  generalize t % size = t at m1 m2
  cases hm : mem l t with
  | true =>
    obtain ⟨x, hx, h1, h2⟩ := (mem_iff _ _).1 hm
    have he := good_each hg x hx
    have := in_down (l := l) (n := n) hs hg hn m1 (x.2 - t).toNat fun u a b => mem_span hg hx (by omega) (by omega)
    rw [show t + (((x.2 - t).toNat : Nat) : Int) = x.2 by omega] at this
    exact .inr ⟨x, hx, this⟩
  | false =>
    rcases least_gap hs hg hn m1 (by omega) hm with h | h
    · exact .inl h.1
    · exact .inr h
/-- .. and behind a span, if there is one -/
theorem least_ex2 {size n : Int} {l : List Sp} (hs : 1 ≤ size) (hg : good size (-1) l = true) (hn : 0 ≤ n) (hl : l ≠ []) (t : Int) : ∃ x ∈ l, D size l n x.2 ≤ D size l n t := by
  rcases least_ex hs hg hn t with h | h
  · have e : D size l n 0 = D size l n size := by have := D_size (l := l) (n := n) hs 0; rw [← this]; simp
    have hm : mem l size = false := by
      cases hm : mem l size with
      | false => rfl
      | true => have := good_mem hg hm; omega
    rcases least_gap hs hg hn (show 0 ≤ size by omega) (Int.le_refl _) hm with ⟨_, h2⟩ | ⟨x, hx, h2⟩
    · obtain ⟨x, hx⟩ := List.exists_mem_of_ne_nil l hl
      have he := good_each hg x hx
      have := h2 x.1 (by omega) (by omega)
      rw [(mem_iff l x.1).2 ⟨x, hx, by omega, by omega⟩] at this
      cases this
    · exact ⟨x, hx, by omega⟩
  · exact h
theorem most_ex {size n : Int} {l : List Sp} (hs : 1 ≤ size) (hg : good size (-1) l = true) (hn : 0 ≤ n) (hl : l ≠ []) (t : Int) : ∃ x ∈ l, D size l n t ≤ D size l n x.1 := by
  obtain ⟨y, hy⟩ := List.exists_mem_of_ne_nil l hl
  have hye := good_each hg y hy
  have go : ∀ (j : Nat) (t : Int), 0 ≤ t → t + j = y.1 + size → ∃ x ∈ l, D size l n t ≤ D size l n x.1 := by
    intro j
    induction j with
    | zero =>
      intro t h0 h1
      refine ⟨y, hy, ?_⟩
      rw [show t = y.1 + size by omega, D_size hs]; omega
    | succ j ih =>
      intro t h0 h1
      cases hm : mem l (t % size) with
      | true =>
        obtain ⟨x, hx, h2, h3⟩ := (mem_iff _ _).1 hm
        have he := good_each hg x hx
        refine ⟨x, hx, ?_⟩
        rw [← D_mod hs t]
        generalize t % size = t at h2 h3
        have := in_down (l := l) (n := n) hs hg hn (show 0 ≤ x.1 by omega) (t - x.1).toNat fun u a b => mem_span hg hx (by omega) (by omega)
        rwa [show x.1 + (((t - x.1).toNat : Nat) : Int) = t by omega] at this
      | false =>
        obtain ⟨x, hx, h2⟩ := ih (t + 1) (by omega) (by omega)
        have c := D_step (l := l) hs hg hn h0
        rw [hm, one_false] at c
        have d := one_bd (mem l ((t + n) % size))
        exact ⟨x, hx, by omega⟩
  have m1 := Int.emod_nonneg t (show size ≠ 0 by omega)
  have m2 := Int.emod_lt_of_pos t (show 0 < size by omega)
  obtain ⟨x, hx, h⟩ := go (y.1 + size - t % size).toNat (t % size) m1 (by omega)
  exact ⟨x, hx, by rwa [D_mod hs] at h⟩

/-- the least of n in a row -/
def LeastP (size : Int) (l : List Sp) (n a : Int) : Prop := (∀ t, 0 ≤ t → a ≤ D size l n t) ∧ ∃ t, 0 ≤ t ∧ a = D size l n t
def MostP (size : Int) (l : List Sp) (n a : Int) : Prop := (∀ t, 0 ≤ t → D size l n t ≤ a) ∧ ∃ t, 0 ≤ t ∧ a = D size l n t
theorem LeastP.one {size n a b : Int} {l : List Sp} (h : LeastP size l n a) (k : LeastP size l n b) : a = b := by
  obtain ⟨h1, t, h2, h3⟩ := h
  obtain ⟨k1, u, k2, k3⟩ := k
  have := h1 u k2
  have := k1 t h2
  omega
theorem MostP.one {size n a b : Int} {l : List Sp} (h : MostP size l n a) (k : MostP size l n b) : a = b := by
  obtain ⟨h1, t, h2, h3⟩ := h
  obtain ⟨k1, u, k2, k3⟩ := k
  have := h1 u k2
  have := k1 t h2
  omega

def lmin (f : Sp → Int) (a : Int) (l : List Sp) : Int := l.foldl (fun a x => min a (f x)) a
def lmax (f : Sp → Int) (a : Int) (l : List Sp) : Int := l.foldl (fun a x => max a (f x)) a
theorem lmin_snoc (f : Sp → Int) (a : Int) (l : List Sp) (x : Sp) : lmin f a (l ++ [x]) = min (lmin f a l) (f x) := by simp [lmin]
theorem lmax_snoc (f : Sp → Int) (a : Int) (l : List Sp) (x : Sp) : lmax f a (l ++ [x]) = max (lmax f a l) (f x) := by simp [lmax]
theorem lmin_le (f : Sp → Int) (a : Int) (l : List Sp) : lmin f a l ≤ a ∧ (∀ x ∈ l, lmin f a l ≤ f x) ∧ (lmin f a l = a ∨ ∃ x ∈ l, lmin f a l = f x) := by
  induction l generalizing a with
  | nil => simp [lmin]
  | cons y r ih =>
    obtain ⟨h1, h2, h3⟩ := ih (min a (f y))
    have e : lmin f a (y :: r) = lmin f (min a (f y)) r := rfl
    rw [e]
    refine ⟨by omega, fun x hx => ?_, ?_⟩
    · rcases List.mem_cons.1 hx with rfl | hx
      · omega
      · exact h2 x hx
    · rcases h3 with h3 | ⟨x, hx, h3⟩
      · by_cases c : a ≤ f y
        · left; omega
        · right; exact ⟨y, by simp, by omega⟩
      · right; exact ⟨x, by simp [hx], h3⟩
theorem lmax_le (f : Sp → Int) (a : Int) (l : List Sp) : a ≤ lmax f a l ∧ (∀ x ∈ l, f x ≤ lmax f a l) ∧ (lmax f a l = a ∨ ∃ x ∈ l, lmax f a l = f x) := by
  induction l generalizing a with
  | nil => simp [lmax]
  | cons y r ih =>
    obtain ⟨h1, h2, h3⟩ := ih (max a (f y))
    have e : lmax f a (y :: r) = lmax f (max a (f y)) r := rfl
    rw [e]
    refine ⟨by omega, fun x hx => ?_, ?_⟩
    · rcases List.mem_cons.1 hx with rfl | hx
      · omega
      · exact h2 x hx
    · rcases h3 with h3 | ⟨x, hx, h3⟩
      · by_cases c : f y ≤ a
        · left; omega
        · right; exact ⟨y, by simp, by omega⟩
      · right; exact ⟨x, by simp [hx], h3⟩
def lst (size : Int) (l : List Sp) (n : Int) : Int := lmin (fun x => D size l n x.2) (D size l n 0) l
def mst (size : Int) (l : List Sp) (n : Int) : Int := lmax (fun x => D size l n x.1) 0 l
theorem lst_P {size n : Int} {l : List Sp} (hs : 1 ≤ size) (hg : good size (-1) l = true) (hn : 0 ≤ n) : LeastP size l n (lst size l n) := by
  obtain ⟨h1, h2, h3⟩ := lmin_le (fun x => D size l n x.2) (D size l n 0) l
  refine ⟨fun t ht => ?_, ?_⟩
  · rcases least_ex hs hg hn t with h | ⟨x, hx, h⟩
    · unfold lst; omega
    · have := h2 x hx
      unfold lst; omega
  · rcases h3 with h3 | ⟨x, hx, h3⟩
    · exact ⟨0, Int.le_refl _, h3⟩
    · have := good_each hg x hx
      exact ⟨x.2, by omega, h3⟩
theorem mst_P {size n : Int} {l : List Sp} (hs : 1 ≤ size) (hg : good size (-1) l = true) (hn : 0 ≤ n) : MostP size l n (mst size l n) := by
  obtain ⟨h1, h2, h3⟩ := lmax_le (fun x => D size l n x.1) 0 l
  by_cases hl : l = []
  · subst hl
    exact ⟨fun t ht => by rw [D_none]; simp [mst, lmax], 0, Int.le_refl _, by rw [D_none]; simp [mst, lmax]⟩
  · obtain ⟨y, hy⟩ := List.exists_mem_of_ne_nil l hl
    refine ⟨fun t ht => ?_, ?_⟩
    · obtain ⟨x, hx, h⟩ := most_ex hs hg hn hl t
      have := h2 x hx
      unfold mst; omega
    · rcases h3 with h3 | ⟨x, hx, h3⟩
      · have e1 := good_each hg y hy
        have e2 := h2 y hy
        have e3 := (D_bd hs hg hn (show 0 ≤ y.1 by omega)).1
        exact ⟨y.1, by omega, by unfold mst; omega⟩
      · have := good_each hg x hx
        exact ⟨x.1, by omega, h3⟩
theorem LeastP.bd {size n a : Int} {l : List Sp} (hs : 1 ≤ size) (hg : good size (-1) l = true) (hn : 0 ≤ n) (h : LeastP size l n a) : 0 ≤ a ∧ a ≤ n := by
  obtain ⟨h1, t, h2, h3⟩ := h
  have := D_bd (l := l) hs hg hn h2
  omega
theorem MostP.bd {size n a : Int} {l : List Sp} (hs : 1 ≤ size) (hg : good size (-1) l = true) (hn : 0 ≤ n) (h : MostP size l n a) : 0 ≤ a ∧ a ≤ n := by
  obtain ⟨h1, t, h2, h3⟩ := h
  have := D_bd (l := l) hs hg hn h2
  omega
theorem LeastP.adds {size n m a b c : Int} {l : List Sp} (hn : 0 ≤ n) (h1 : LeastP size l n a) (h2 : LeastP size l m b) (h3 : LeastP size l (n + m) c) : a + b ≤ c := by
  obtain ⟨_, t, ht, rfl⟩ := h3
  have := h1.1 t ht
  have := h2.1 (t + n) (by omega)
  rw [D_add]; omega
theorem MostP.adds {size n m a b c : Int} {l : List Sp} (hn : 0 ≤ n) (h1 : MostP size l n a) (h2 : MostP size l m b) (h3 : MostP size l (n + m) c) : c ≤ a + b := by
  obtain ⟨_, t, ht, rfl⟩ := h3
  have := h1.1 t ht
  have := h2.1 (t + n) (by omega)
  rw [D_add]; omega
theorem LeastP.more {size n a d : Int} {l : List Sp} (hs : 1 ≤ size) (hg : good size (-1) l = true) (hn : 0 ≤ n) (h1 : LeastP size l n a) (h2 : LeastP size l (n + 1) d) : a ≤ d ∧ d ≤ a + 1 := by
  obtain ⟨a1, t, ht, a2⟩ := h1
  obtain ⟨b1, u, hu, b2⟩ := h2
  have c1 := a1 u hu
  have c2 := b1 t ht
  have c3 := D_mono (l := l) hs hg hn hu (show n ≤ n + 1 by omega)
  have c4 := D_add (size := size) (l := l) (n := n) (m := 1) (t := t)
  have c5 := D_bd (l := l) hs hg (n := 1) (t := t + n) (by omega) (by omega)
  omega
theorem D_frame {size n t : Int} {l : List Sp} (hs : 1 ≤ size) : D size l (n + size) t = D size l n t + cnt l size := by
  unfold D
  rw [show t + (n + size) = t + n + size by omega, cb_shift hs]; omega
theorem LeastP.frame {size n a c : Int} {l : List Sp} (hs : 1 ≤ size) (h1 : LeastP size l n a) (h2 : LeastP size l (n + size) c) : c = a + cnt l size := by
  obtain ⟨a1, t, ht, a2⟩ := h1
  obtain ⟨b1, u, hu, b2⟩ := h2
  have c1 := a1 u hu
  have c2 := b1 t ht
  rw [D_frame hs] at b2 c2
  omega
theorem MostP.frame {size n a c : Int} {l : List Sp} (hs : 1 ≤ size) (h1 : MostP size l n a) (h2 : MostP size l (n + size) c) : c = a + cnt l size := by
  obtain ⟨a1, t, ht, a2⟩ := h1
  obtain ⟨b1, u, hu, b2⟩ := h2
  have c1 := a1 u hu
  have c2 := b1 t ht
  rw [D_frame hs] at b2 c2
  omega
theorem cb_not {size t : Int} {l m : List Sp} (hs : 1 ≤ size) (hg : good size (-1) l = true) (hm : good size (-1) m = true) (h : ∀ u, 0 ≤ u → u < size → mem m u = !mem l u) (ht : 0 ≤ t) : cb size l t + cb size m t = t := by
  have e1 := cb_num hs hg t.toNat
  have e2 := cb_num hs hm t.toNat
  rw [Int.toNat_of_nonneg ht] at e1 e2
  rw [e1, e2, num_all]
  · omega
  · intro u hu
    have m1 := Int.emod_nonneg (u : Int) (show size ≠ 0 by omega)
    have m2 := Int.emod_lt_of_pos (u : Int) (show 0 < size by omega)
    rw [h _ m1 m2]
    cases mem l ((u : Int) % size) <;> rfl
theorem LeastP.dual {size n a b : Int} {l m : List Sp} (hs : 1 ≤ size) (hg : good size (-1) l = true) (hm : good size (-1) m = true) (h : ∀ u, 0 ≤ u → u < size → mem m u = !mem l u) (hn : 0 ≤ n) (h1 : LeastP size l n a) (h2 : MostP size m n b) : a + b = n := by
  have key : ∀ t, 0 ≤ t → D size l n t + D size m n t = n := by
    intro t ht
    have e1 := cb_not hs hg hm h ht
    have e2 := cb_not hs hg hm h (show 0 ≤ t + n by omega)
    unfold D; omega
  obtain ⟨a1, t, ht, a2⟩ := h1
  obtain ⟨b1, u, hu, b2⟩ := h2
  have c1 := a1 u hu
  have c2 := b1 t ht
  have k1 := key t ht
  have k2 := key u hu
  omega
end SupM
end Go.Proofs.Ytpnahhpkaegeeaa

/- Plain mathematics of how long it takes, and of sums ahead of spans. -/
set_option linter.unusedVariables false
namespace Go.Proofs.Ytpnahhpkaegeeaa
open SpanM
namespace SupM
def lens : List Sp → Int
  | [] => 0
  | x :: r => (x.2 - x.1) + lens r
theorem lens_append (l r : List Sp) : lens (l ++ r) = lens l + lens r := by
  induction l with
  | nil => simp [lens]
  | cons y s ih => simp only [List.cons_append, lens, ih]; omega
/-- how many are ahead of the k-th -/
def ah (l : List Sp) (k : Nat) : Int := lens (l.take k)
theorem ah_zero (l : List Sp) : ah l 0 = 0 := by simp [ah, lens]
theorem ah_succ (l : List Sp) (k : Nat) (h : k < l.length) : ah l (k + 1) = ah l k + ((l.getD k (0, 0)).2 - (l.getD k (0, 0)).1) := by
  unfold ah
  rw [take_snoc l k h, lens_append]; simp [lens]
theorem cnt_append (l r : List Sp) (n : Int) : cnt (l ++ r) n = cnt l n + cnt r n := by
  induction l with
  | nil => simp [cnt]
  | cons y s ih => simp only [List.cons_append, cnt, ih]; omega
theorem cnt_full (l : List Sp) (n : Int) (h : ∀ y ∈ l, y.1 ≤ y.2 ∧ y.2 ≤ n) : cnt l n = lens l := by
  induction l with
  | nil => rfl
  | cons y s ih =>
    have h1 := h y (by simp)
    simp only [cnt, lens]
    rw [ih fun z hz => h z (by simp [hz])]; omega
theorem cnt_none (l : List Sp) (n : Int) (h : ∀ y ∈ l, n ≤ y.1) : cnt l n = 0 := by
  induction l with
  | nil => rfl
  | cons y s ih =>
    have h1 := h y (by simp)
    simp only [cnt]
    rw [ih fun z hz => h z (by simp [hz])]; omega
theorem good_last {size : Int} : ∀ {e : Int} {l : List Sp}, good size e l = true → ∀ y ∈ l, y.2 ≤ lastEnd e l := by
  intro e l
  induction l generalizing e with
  | nil => intro _ y hy; simp at hy
  | cons x r ih =>
    intro h y hy
    obtain ⟨h1, h2, h3, h4⟩ := good_cons.1 h
    simp only [lastEnd]
    rcases List.mem_cons.1 hy with rfl | hy
    · exact lastEnd_le h4
    · exact ih h4 y hy
/-- the k-th: those ahead are over, those behind have not begun -/
theorem good_at {size : Int} {l : List Sp} (hg : good size (-1) l = true) {k : Nat} (hk : k < l.length) :
    (∀ y ∈ l.take k, y.1 ≤ y.2 ∧ y.2 < (l.getD k (0, 0)).1) ∧ (∀ y ∈ l.drop (k + 1), (l.getD k (0, 0)).2 < y.1) ∧ 0 ≤ (l.getD k (0, 0)).1 ∧ (l.getD k (0, 0)).1 < (l.getD k (0, 0)).2 ∧ (l.getD k (0, 0)).2 ≤ size := by
  have h := hg
  rw [← List.take_append_drop k l] at h
  obtain ⟨g1, g2⟩ := good_append.1 h
  rw [drop_get l k hk] at g2
  obtain ⟨g3, g4, g5, g6⟩ := good_cons.1 g2
  have g7 := lastEnd_le g1
  refine ⟨fun y hy => ?_, fun y hy => (good_each g6 y hy).1, by omega, g4, g5⟩
  have := good_last g1 y hy
  have := (good_each g1 y hy).2.1
  omega
theorem split_at (l : List Sp) (k : Nat) (hk : k < l.length) : l = l.take k ++ (l.getD k (0, 0) :: l.drop (k + 1)) := by
  rw [← drop_get l k hk, List.take_append_drop]
/-- how many up to some time of the k-th -/
theorem cnt_at {size : Int} {l : List Sp} (hg : good size (-1) l = true) {k : Nat} (hk : k < l.length) {t : Int} (h1 : (l.getD k (0, 0)).1 ≤ t) (h2 : ∀ y ∈ l.drop (k + 1), t ≤ y.1) :
    cnt l t = ah l (k + 1) - max 0 ((l.getD k (0, 0)).2 - t) := by
  obtain ⟨g1, g2, g3, g4, g5⟩ := good_at hg hk
  rw [ah_succ l k hk]
  have e := congrArg (fun l => cnt l t) (split_at l k hk)
  simp only [cnt_append, cnt] at e
  rw [e, cnt_full _ _ fun y hy => ⟨(g1 y hy).1, by have := (g1 y hy).2; omega⟩, cnt_none _ _ h2]
  unfold ah
  generalize l.getD k (0, 0) = x at *
  omega
theorem cnt_from {size : Int} {l : List Sp} (hg : good size (-1) l = true) {k : Nat} (hk : k < l.length) {t : Int} (h1 : (l.getD k (0, 0)).1 ≤ t) (h2 : t ≤ (l.getD k (0, 0)).2) : cnt l t = ah l k + (t - (l.getD k (0, 0)).1) := by
  obtain ⟨g1, g2, g3, g4, g5⟩ := good_at hg hk
  rw [cnt_at hg hk h1 fun y hy => by have := g2 y hy; omega, ah_succ l k hk]
  omega
theorem cnt_size {size : Int} {l : List Sp} (hg : good size (-1) l = true) : cnt l size = ah l l.length := by
  unfold ah
  rw [List.take_length, cnt_full]
  intro y hy
  have := good_each hg y hy
  omega
theorem ah_mono {size : Int} {l : List Sp} (hg : good size (-1) l = true) {i j : Nat} (h : i ≤ j) (hj : j ≤ l.length) : ah l i ≤ ah l j ∧ (i < j → ah l i < ah l j) := by
  obtain ⟨k, rfl⟩ : ∃ k, j = i + k := ⟨j - i, by omega⟩
  induction k with
  | zero => simp
  | succ k ih =>
    have a := ih (by omega) (by omega)
    have b := ah_succ l (i + k) (by omega)
    obtain ⟨g1, g2, g3, g4, g5⟩ := good_at hg (show i + k < l.length by omega)
    rw [show i + (k + 1) = i + k + 1 by omega, b]
    omega
theorem ah_bd {size : Int} {l : List Sp} (hs : 1 ≤ size) (hg : good size (-1) l = true) {i : Nat} (h : i ≤ l.length) : 0 ≤ ah l i ∧ ah l i ≤ ah l l.length ∧ ah l l.length ≤ size := by
  have a := (ah_mono hg (Nat.zero_le i) h).1
  have b := (ah_mono hg h (Nat.le_refl _)).1
  rw [ah_zero] at a
  have c := cb_pos hs hg (t := size) (by omega)
  rw [cb_in hs hg (by omega) (Int.le_refl _), cnt_size hg] at c
  omega
theorem cb_end {size : Int} {l : List Sp} (hs : 1 ≤ size) (hg : good size (-1) l = true) {k : Nat} (hk : k < l.length) : cb size l (l.getD k (0, 0)).2 = ah l (k + 1) ∧ cb size l (l.getD k (0, 0)).1 = ah l k := by
  obtain ⟨g1, g2, g3, g4, g5⟩ := good_at hg hk
  rw [cb_in hs hg (by omega) (by omega), cb_in hs hg (by omega) (by omega), cnt_from hg hk (by omega) (by omega), cnt_from hg hk (by omega) (by omega), ah_succ l k hk]
  omega
/-- what below answers -/
theorem below_eq {size rest : Int} {l : List Sp} (hg : good size (-1) l = true) {b : Nat} (hb : b ≤ l.length) (h1 : ∀ i, i < b → (l.getD i (0, 0)).1 < rest) (h2 : ∀ i, b ≤ i → i < l.length → rest ≤ (l.getD i (0, 0)).1) :
    cnt l rest = if b = 0 then 0 else ah l b - max 0 ((l.getD (b - 1) (0, 0)).2 - rest) := by
  have hd : ∀ y ∈ l.drop b, rest ≤ y.1 := by
    intro y hy
    obtain ⟨i, hi, e⟩ := List.mem_iff_getElem.1 hy
    rw [List.getElem_drop] at e
    have := h2 (b + i) (by omega) (by simp at hi; omega)
    rw [← e]
    simpa [List.getD, show b + i < l.length by simp at hi; omega] using this
  split
  · subst b
    exact cnt_none _ _ (by simpa using hd)
  · obtain ⟨k, rfl⟩ : ∃ k, b = k + 1 := ⟨b - 1, by omega⟩
    have := h1 k (by omega)
    exact cnt_at hg (by omega) (by omega) hd
/-- where the first n times are over -/
def EndP (size : Int) (l : List Sp) (n T : Int) : Prop := 1 ≤ T ∧ cb size l T = n ∧ mem l ((T - 1) % size) = true
theorem EndP.one {size n T U : Int} {l : List Sp} (hs : 1 ≤ size) (hg : good size (-1) l = true) (h : EndP size l n T) (k : EndP size l n U) : T = U := by
  have key : ∀ {T U}, EndP size l n T → EndP size l n U → ¬ T < U := by
    intro T U h k c
    obtain ⟨h1, h2, h3⟩ := h
    obtain ⟨k1, k2, k3⟩ := k
    have a := cb_mono hs hg (show 0 ≤ T by omega) (show T ≤ U - 1 by omega)
    have b := cb_one hs hg (t := U - 1) (by omega)
    rw [k3, one_true, show U - 1 + 1 = U by omega] at b
    omega
  have a := key h k
  have b := key k h
  omega
theorem end_eq {size rounds rest : Int} {l : List Sp} (hs : 1 ≤ size) (hg : good size (-1) l = true) (hr : 0 ≤ rounds) {k : Nat} (hk : k < l.length) (h1 : ah l k < rest) (h2 : rest ≤ ah l (k + 1)) :
    EndP size l (rounds * ah l l.length + rest) (rounds * size + (l.getD k (0, 0)).1 + rest - ah l k) := by
  obtain ⟨g1, g2, g3, g4, g5⟩ := good_at hg hk
  rw [ah_succ l k hk] at h2
  have hrs : 0 ≤ rounds * size := Int.mul_nonneg hr (by omega)
  have e : rounds * size + (l.getD k (0, 0)).1 + rest - ah l k = ((l.getD k (0, 0)).1 + (rest - ah l k)) + size * rounds := by rw [Int.mul_comm rounds]; omega
  refine ⟨by omega, ?_, ?_⟩
  · rw [e, cb_shiftk hs, cb_in hs hg (by omega) (by omega), cnt_from hg hk (by omega) (by omega), cnt_size hg]; omega
  · rw [e, show (l.getD k (0, 0)).1 + (rest - ah l k) + size * rounds - 1 = ((l.getD k (0, 0)).1 + (rest - ah l k) - 1) + size * rounds by omega, Int.add_mul_emod_self_left]
    exact mem_span hg (x := l.getD k (0, 0)) (by simp [List.getD, hk]) (by omega) (by omega)
theorem ah_find {size rest : Int} {l : List Sp} (hg : good size (-1) l = true) (h1 : 1 ≤ rest) (h2 : rest ≤ ah l l.length) : ∃ k, k < l.length ∧ ah l k < rest ∧ rest ≤ ah l (k + 1) := by
  have : ∀ j, j ≤ l.length → rest ≤ ah l j → ∃ k, k < l.length ∧ ah l k < rest ∧ rest ≤ ah l (k + 1) := by
    intro j
    induction j with
    | zero => intro _ h; rw [ah_zero] at h; omega
    | succ j ih =>
      intro hj h
      by_cases c : rest ≤ ah l j
      · exact ih (by omega) c
      · exact ⟨j, by omega, by omega, h⟩
  exact this _ (Nat.le_refl _) h2
theorem rest_bd {n L : Int} (hL : 1 ≤ L) (hn : 1 ≤ n) : 0 ≤ (n - 1) / L ∧ 1 ≤ n - (n - 1) / L * L ∧ n - (n - 1) / L * L ≤ L ∧ (n - 1) / L ≤ n - 1 ∧ 0 ≤ (n - 1) / L * L ∧ (n - 1) / L * L ≤ n - 1 := by
  have m1 := Int.emod_nonneg (n - 1) (show L ≠ 0 by omega)
  have m2 := Int.emod_lt_of_pos (n - 1) (show 0 < L by omega)
  have m3 := Int.emod_add_mul_ediv (n - 1) L
  have m4 : (n - 1) / L ≤ n - 1 := Int.ediv_le_self _ (by omega)
  have m5 : 0 ≤ (n - 1) / L := Int.ediv_nonneg (by omega) (by omega)
  rw [Int.mul_comm] at m3
  have m6 := Int.mul_nonneg m5 (show 0 ≤ L by omega)
  omega
theorem tot_pos {size : Int} {l : List Sp} (hg : good size (-1) l = true) (hl : l ≠ []) : 1 ≤ ah l l.length := by
  have : 0 < l.length := List.length_pos_iff.2 hl
  have := (ah_mono hg (Nat.zero_le l.length) (Nat.le_refl _)).2 (by omega)
  rw [ah_zero] at this
  omega
theorem end_ex {size n : Int} {l : List Sp} (hs : 1 ≤ size) (hg : good size (-1) l = true) (hl : l ≠ []) (hn : 1 ≤ n) : ∃ T, EndP size l n T := by
  have hL := tot_pos hg hl
  obtain ⟨a1, a2, a3, a4, _⟩ := rest_bd hL hn
  obtain ⟨k, k1, k2, k3⟩ := ah_find hg a2 a3
  have := end_eq hs hg a1 k1 k2 k3
  rw [show (n - 1) / ah l l.length * ah l l.length + (n - (n - 1) / ah l l.length * ah l l.length) = n by omega] at this
  exact ⟨_, this⟩
open Classical in
noncomputable def endT (size : Int) (l : List Sp) (n : Int) : Int := if h : ∃ T, EndP size l n T then h.choose else 0
theorem endT_P {size n : Int} {l : List Sp} (hs : 1 ≤ size) (hg : good size (-1) l = true) (hl : l ≠ []) (hn : 1 ≤ n) : EndP size l n (endT size l n) := by
  have h := end_ex hs hg hl hn
  unfold endT
  rw [dif_pos h]
  exact h.choose_spec
theorem endT_eq {size n T : Int} {l : List Sp} (hs : 1 ≤ size) (hg : good size (-1) l = true) (h : EndP size l n T) : endT size l n = T := by
  have h' : ∃ T, EndP size l n T := ⟨T, h⟩
  unfold endT
  rw [dif_pos h']
  exact EndP.one hs hg h'.choose_spec h
/-- how long it takes from a time on -/
noncomputable def fr (size : Int) (l : List Sp) (t need : Int) : Int := endT size l (cb size l t + need) - t
/-- .. and at worst -/
noncomputable def wt (size : Int) (l : List Sp) (need : Int) : Int := lmax (fun x => fr size l x.2 need) 0 l
theorem fr_P {size t need : Int} {l : List Sp} (hs : 1 ≤ size) (hg : good size (-1) l = true) (hl : l ≠ []) (ht : 0 ≤ t) (hn : 1 ≤ need) :
    1 ≤ fr size l t need ∧ D size l (fr size l t need) t = need ∧ mem l ((t + fr size l t need - 1) % size) = true ∧ D size l (fr size l t need - 1) t = need - 1 := by
  have c := cb_pos hs hg ht
  obtain ⟨h1, h2, h3⟩ := endT_P hs hg hl (show 1 ≤ cb size l t + need by omega)
  unfold fr
  generalize endT size l (cb size l t + need) = T at *
  have hT : t < T := by
    by_cases c : t < T
    · exact c
    · have := cb_mono hs hg (show 0 ≤ T by omega) (show T ≤ t by omega)
      omega
  have b := cb_one hs hg (t := T - 1) (by omega)
  rw [h3, one_true, show T - 1 + 1 = T by omega] at b
  unfold D
  rw [show t + (T - t) = T by omega, show t + (T - t - 1) = T - 1 by omega]
  exact ⟨by omega, by omega, h3, by omega⟩
/-- so many in a row are enough just if it doesn't take longer -/
theorem fr_iff {size t need n : Int} {l : List Sp} (hs : 1 ≤ size) (hg : good size (-1) l = true) (hl : l ≠ []) (ht : 0 ≤ t) (hn : 1 ≤ need) (h0 : 0 ≤ n) : need ≤ D size l n t ↔ fr size l t need ≤ n := by
  obtain ⟨h1, h2, h3, h4⟩ := fr_P hs hg hl ht hn
  generalize fr size l t need = m at *
  constructor
  · intro h
    by_cases c : m ≤ n
    · exact c
    · have := D_mono hs hg h0 ht (show n ≤ m - 1 by omega)
      omega
  · intro h
    have := D_mono hs hg (show 0 ≤ m by omega) ht h
    omega
theorem wt_at {size need : Int} {l : List Sp} (hs : 1 ≤ size) (hg : good size (-1) l = true) (hl : l ≠ []) (hn : 1 ≤ need) : 1 ≤ wt size l need ∧ ∃ x ∈ l, wt size l need = fr size l x.2 need := by
  obtain ⟨h1, h2, h3⟩ := lmax_le (fun x => fr size l x.2 need) 0 l
  obtain ⟨y, hy⟩ := List.exists_mem_of_ne_nil l hl
  have hye := good_each hg y hy
  have hp := (fr_P hs hg hl (show 0 ≤ y.2 by omega) hn).1
  have hq := h2 y hy
  unfold wt
  refine ⟨by omega, ?_⟩
  rcases h3 with h3 | h3
  · omega
  · exact h3
theorem wt_iff {size need n a : Int} {l : List Sp} (hs : 1 ≤ size) (hg : good size (-1) l = true) (hl : l ≠ []) (hn : 1 ≤ need) (h0 : 0 ≤ n) (h : LeastP size l n a) : need ≤ a ↔ wt size l need ≤ n := by
  obtain ⟨a1, t, ht, a2⟩ := h
  constructor
  · intro h
    obtain ⟨_, x, hx, e⟩ := wt_at hs hg hl hn
    have hxe := good_each hg x hx
    have := a1 x.2 (by omega)
    rw [e]
    exact (fr_iff hs hg hl (by omega) hn h0).1 (by omega)
  · intro h
    obtain ⟨x, hx, hd⟩ := least_ex2 hs hg h0 hl t
    have hxe := good_each hg x hx
    have := (lmax_le (fun x => fr size l x.2 need) 0 l).2.1 x hx
    have := (fr_iff hs hg hl (show 0 ≤ x.2 by omega) hn h0).2 (by unfold wt at h; omega)
    omega
theorem fr_wt {size t need : Int} {l : List Sp} (hs : 1 ≤ size) (hg : good size (-1) l = true) (hl : l ≠ []) (ht : 0 ≤ t) (hn : 1 ≤ need) : fr size l t need ≤ wt size l need := by
  have h0 := (wt_at hs hg hl hn).1
  have hw : 0 ≤ wt size l need := by omega
  have := (wt_iff hs hg hl hn hw (lst_P hs hg hw)).2 (Int.le_refl _)
  have := (lst_P hs hg hw).1 t ht
  exact (fr_iff hs hg hl ht hn hw).1 (by omega)
theorem wt_more {size need : Int} {l : List Sp} (hs : 1 ≤ size) (hg : good size (-1) l = true) (hl : l ≠ []) (hn : 1 ≤ need) : wt size l need < wt size l (need + 1) := by
  have h1 := (wt_at hs hg hl (show 1 ≤ need + 1 by omega)).1
  obtain ⟨w, hw⟩ : ∃ w, w = wt size l (need + 1) - 1 := ⟨_, rfl⟩
  have a := (wt_iff hs hg hl (show 1 ≤ need + 1 by omega) (by omega) (lst_P hs hg (show 0 ≤ w + 1 by omega))).2 (by omega)
  have b := LeastP.more hs hg (by omega) (lst_P hs hg (show 0 ≤ w by omega)) (lst_P hs hg (show 0 ≤ w + 1 by omega))
  have c := (wt_iff hs hg hl hn (by omega) (lst_P hs hg (show 0 ≤ w by omega))).1 (by omega)
  omega
/-- it takes no longer than this -/
theorem endT_le {size n : Int} {l : List Sp} (hs : 1 ≤ size) (hg : good size (-1) l = true) (hl : l ≠ []) (hn : 1 ≤ n) : 1 ≤ endT size l n ∧ endT size l n ≤ n * size := by
  have hL := tot_pos hg hl
  obtain ⟨a1, a2, a3, a4, _⟩ := rest_bd hL hn
  obtain ⟨k, k1, k2, k3⟩ := ah_find hg a2 a3
  have h := end_eq hs hg a1 k1 k2 k3
  rw [show (n - 1) / ah l l.length * ah l l.length + (n - (n - 1) / ah l l.length * ah l l.length) = n by omega] at h
  have e := endT_eq hs hg h
  refine ⟨by rw [e]; exact h.1, ?_⟩
  rw [e]
  obtain ⟨g1, g2, g3, g4, g5⟩ := good_at hg k1
  rw [ah_succ l k k1] at k3
  have m : (n - 1) / ah l l.length * size ≤ (n - 1) * size := Int.mul_le_mul_of_nonneg_right a4 (by omega)
  rw [Int.sub_mul] at m
  omega
theorem countP_mono (p : Nat → Bool) (n : Nat) (h : ∀ a b, a ≤ b → b < n → p a = true → p b = true) :
    (List.range n).countP (fun i => !p i) ≤ n ∧ (∀ i, i < (List.range n).countP (fun i => !p i) → p i = false) ∧ ∀ i, (List.range n).countP (fun i => !p i) ≤ i → i < n → p i = true := by
  induction n with
  | zero => simp
  | succ n ih =>
    obtain ⟨h1, h2, h3⟩ := ih fun a b x y z => h a b x (by omega) z
    rw [List.range_succ, List.countP_append]
    cases hp : p n with
    | true =>
      simp only [List.countP_cons, List.countP_nil, hp, Bool.not_true]
      refine ⟨by simp; omega, fun i hi => h2 i (by simpa using hi), fun i hi1 hi2 => ?_⟩
      by_cases c : i < n
      · exact h3 i (by simpa using hi1) c
      · rwa [show i = n by omega]
    | false =>
      have all : ∀ i, i < n → p i = false := fun i hi => by
        cases hpi : p i with
        | false => rfl
        | true => have := h i n (by omega) (by omega) hpi; rw [hp] at this; cases this
      have e : (List.range n).countP (fun i => !p i) = n := by
        by_cases c : (List.range n).countP (fun i => !p i) < n
        · have := h3 _ (Nat.le_refl _) c; rw [all _ c] at this; cases this
        · omega
      rw [e]
      simp only [List.countP_cons, List.countP_nil, hp, Bool.not_false]
      refine ⟨by simp, fun i hi => ?_, fun i hi1 hi2 => by simp at hi1; omega⟩
      by_cases c : i < n
      · exact all i c
      · rwa [show i = n by simp at hi; omega]
end SupM
end Go.Proofs.Ytpnahhpkaegeeaa

/- Plain mathematics of tasks: what they demand, and where it fits. -/
set_option linter.unusedVariables false
namespace Go.Proofs.Ytpnahhpkaegeeaa
open SpanM SupM
namespace TaskM
/-- long, every, due -/
abbrev Tk := Int × Int × Int
def tok (x : Tk) : Prop := 1 ≤ x.2.1 ∧ x.2.1 ≤ 10000 ∧ 1 ≤ x.2.2 ∧ x.2.2 ≤ x.2.1 ∧ 1 ≤ x.1 ∧ x.1 ≤ x.2.2
/-- how many jobs of a task are due within n -/
def jobs (x : Tk) (n : Int) : Int := (n - x.2.2) / x.2.1 + 1
def dem : List Tk → Int → Int
  | [], _ => 0
  | x :: r, n => x.1 * jobs x n + dem r n
/-- what is needed in a round -/
def use (R : Int) : List Tk → Int
  | [] => 0
  | x :: r => R / x.2.1 * x.1 + use R r
theorem jobs_zero {x : Tk} (h : tok x) {n : Int} (h0 : 0 ≤ n) (h1 : n < x.2.2) : jobs x n = 0 := by
  obtain ⟨e1, _, d1, d2, _⟩ := h
  unfold jobs
  have : (n - x.2.2) / x.2.1 = -1 := by
    refine (Int.ediv_eq_iff_of_pos (by omega)).2 ?_
    omega
  omega
theorem jobs_pos {x : Tk} (h : tok x) {n : Int} (h0 : 0 ≤ n) : 0 ≤ jobs x n := by
  by_cases c : n < x.2.2
  · rw [jobs_zero h h0 c]; omega
  · unfold jobs
    have := Int.ediv_nonneg (show 0 ≤ n - x.2.2 by omega) (show 0 ≤ x.2.1 by have := h.1; omega)
    omega
theorem jobs_mono {x : Tk} (h : tok x) {n m : Int} (hm : n ≤ m) : jobs x n ≤ jobs x m := by
  unfold jobs
  have := Int.ediv_le_ediv (show 0 < x.2.1 by have := h.1; omega) (show n - x.2.2 ≤ m - x.2.2 by omega)
  omega
theorem jobs_round {x : Tk} (h : tok x) {n R : Int} (hd : x.2.1 ∣ R) : jobs x (n + R) = jobs x n + R / x.2.1 := by
  obtain ⟨k, rfl⟩ := hd
  have := h.1
  unfold jobs
  rw [show n + x.2.1 * k - x.2.2 = n - x.2.2 + x.2.1 * k by omega, Int.add_mul_ediv_left _ _ (by omega), Int.mul_ediv_cancel_left _ (by omega)]
  omega
theorem jobs_most {x : Tk} (h : tok x) {n : Int} (h0 : 0 ≤ n) : jobs x n ≤ n / x.2.1 + 1 := by
  unfold jobs
  have := Int.ediv_le_ediv (show 0 < x.2.1 by have := h.1; omega) (show n - x.2.2 ≤ n by have := h.2.2.1; omega)
  omega
/-- .. as the document counts them -/
theorem jobs_iff {x : Tk} (h : tok x) {n : Int} (h0 : 0 ≤ n) (k : Int) (hk : 0 ≤ k) : k * x.2.1 + x.2.2 ≤ n ↔ k < jobs x n := by
  have e1 := h.1
  unfold jobs
  constructor
  · intro hh
    have : k ≤ (n - x.2.2) / x.2.1 := (Int.le_ediv_iff_mul_le (by omega)).2 (by omega)
    omega
  · intro hh
    have := (Int.le_ediv_iff_mul_le (show 0 < x.2.1 by omega)).1 (show k ≤ (n - x.2.2) / x.2.1 by omega)
    omega
theorem dem_append (l m : List Tk) (n : Int) : dem (l ++ m) n = dem l n + dem m n := by
  induction l with
  | nil => simp [dem]
  | cons x r ih => simp only [List.cons_append, dem, ih]; omega
theorem dem_reverse (l : List Tk) (n : Int) : dem l.reverse n = dem l n := by
  induction l with
  | nil => rfl
  | cons x r ih => rw [List.reverse_cons, dem_append, ih]; simp only [dem]; omega
theorem dem_nonneg {l : List Tk} (h : ∀ x ∈ l, tok x) {n : Int} (h0 : 0 ≤ n) : 0 ≤ dem l n := by
  induction l with
  | nil => simp [dem]
  | cons x r ih =>
    have a := ih fun y hy => h y (by simp [hy])
    have o := h x (by simp)
    have b := Int.mul_nonneg (show 0 ≤ x.1 by have := o.2.2.2.2.1; omega) (jobs_pos o h0)
    simp only [dem]; omega
theorem dem_mono {l : List Tk} (h : ∀ x ∈ l, tok x) {n m : Int} (hm : n ≤ m) : dem l n ≤ dem l m := by
  induction l with
  | nil => simp [dem]
  | cons x r ih =>
    have a := ih fun y hy => h y (by simp [hy])
    have o := h x (by simp)
    have b := Int.mul_le_mul_of_nonneg_left (jobs_mono o hm) (show 0 ≤ x.1 by have := o.2.2.2.2.1; omega)
    simp only [dem]; omega
theorem dem_zero {l : List Tk} (h : ∀ x ∈ l, tok x) : dem l 0 = 0 := by
  induction l with
  | nil => rfl
  | cons x r ih =>
    have o := h x (by simp)
    simp only [dem]
    rw [ih fun y hy => h y (by simp [hy]), jobs_zero o (Int.le_refl _) (by have := o.2.2.1; omega)]; omega
theorem dem_round {l : List Tk} (h : ∀ x ∈ l, tok x) {R : Int} (hR : ∀ x ∈ l, x.2.1 ∣ R) (n : Int) : dem l (n + R) = dem l n + use R l := by
  induction l with
  | nil => simp [dem, use]
  | cons x r ih =>
    have a := ih (fun y hy => h y (by simp [hy])) (fun y hy => hR y (by simp [hy]))
    have o := h x (by simp)
    simp only [dem, use]
    rw [a, jobs_round o (hR x (by simp)), Int.mul_add, Int.mul_comm (R / x.2.1)]; omega
/-- what all of them need of so much time, each for one job more -/
def most (n : Int) : List Tk → Int
  | [] => 0
  | x :: r => x.1 * (n / x.2.1 + 1) + most n r
theorem dem_most {l : List Tk} (h : ∀ x ∈ l, tok x) {n : Int} (h0 : 0 ≤ n) : dem l n ≤ most n l := by
  induction l with
  | nil => simp [dem, most]
  | cons x r ih =>
    have a := ih fun y hy => h y (by simp [hy])
    have o := h x (by simp)
    have b := Int.mul_le_mul_of_nonneg_left (jobs_most o h0) (show 0 ≤ x.1 by have := o.2.2.2.2.1; omega)
    simp only [dem, most]; omega
/-- no more than what there is at all, and a job each -/
theorem dem_le {l : List Tk} (h : ∀ x ∈ l, tok x) {n : Int} (h0 : 0 ≤ n) : dem l n ≤ l.length * (n + 10000) := by
  induction l with
  | nil => simp [dem]
  | cons x r ih =>
    have a := ih fun y hy => h y (by simp [hy])
    obtain ⟨e1, e2, d1, d2, g1, g2⟩ := h x (by simp)
    have b := jobs_most (h x (by simp)) h0
    have c := Int.mul_le_mul_of_nonneg_left b (show 0 ≤ x.1 by omega)
    have d : x.1 * (n / x.2.1 + 1) ≤ x.2.1 * (n / x.2.1 + 1) := Int.mul_le_mul_of_nonneg_right (by omega) (by have := Int.ediv_nonneg h0 (show 0 ≤ x.2.1 by omega); omega)
    have m3 := Int.emod_add_mul_ediv n x.2.1
    have m1 := Int.emod_nonneg n (show x.2.1 ≠ 0 by omega)
    have d2 : x.2.1 * (n / x.2.1 + 1) = x.2.1 * (n / x.2.1) + x.2.1 := by rw [Int.mul_add, Int.mul_one]
    simp only [dem, List.length_cons]
    rw [show ((r.length + 1 : Nat) : Int) * (n + 10000) = (r.length : Int) * (n + 10000) + (n + 10000) by rw [show ((r.length + 1 : Nat) : Int) = (r.length : Int) + 1 by omega, Int.add_mul]; omega]
    omega

/-! where it fits -/
theorem D_rounds {size : Int} {sl : List Sp} (hs : 1 ≤ size) (n t k : Int) : D size sl (n + size * k) t = D size sl n t + k * cnt sl size := by
  unfold D
  rw [show t + (n + size * k) = t + n + size * k by omega, cb_shiftk hs]; omega
theorem least_rounds {size n k a b : Int} {sl : List Sp} (hs : 1 ≤ size) (h1 : LeastP size sl n a) (h2 : LeastP size sl (n + size * k) b) : b = a + k * cnt sl size := by
  obtain ⟨a1, t, ht, a2⟩ := h1
  obtain ⟨b1, u, hu, b2⟩ := h2
  have c1 := a1 u hu
  have c2 := b1 t ht
  rw [D_rounds hs] at b2 c2
  omega
theorem lst_rounds {size n k : Int} {sl : List Sp} (hs : 1 ≤ size) (hg : good size (-1) sl = true) (hn : 0 ≤ n) (hk : 0 ≤ k) : lst size sl (n + size * k) = lst size sl n + k * cnt sl size :=
  least_rounds hs (lst_P hs hg hn) (lst_P hs hg (by have := Int.mul_nonneg (show 0 ≤ size by omega) hk; omega))
theorem lst_zero {size : Int} {sl : List Sp} (hs : 1 ≤ size) (hg : good size (-1) sl = true) : lst size sl 0 = 0 := by
  have := (lst_P hs hg (Int.le_refl 0)).bd hs hg (Int.le_refl 0)
  omega
/-- there is too little for n -/
def Bad (size : Int) (sl : List Sp) (l : List Tk) (n : Int) : Prop := lst size sl n < dem l n
theorem bad_down {size : Int} {sl : List Sp} {l : List Tk} (hs : 1 ≤ size) (hg : good size (-1) sl = true) (h : ∀ x ∈ l, tok x) {M : Int} (hM : 1 ≤ M) (hR : ∀ x ∈ l, x.2.1 ∣ M) (hS : size ∣ M) (k : Nat) :
    ∀ n : Int, n.toNat = k → 0 ≤ n → Bad size sl l n → ∃ m, 0 ≤ m ∧ m ≤ M ∧ m ≤ n ∧ Bad size sl l m := by
  induction k using Nat.strongRecOn with
  | ind k ih =>
    intro n hk h0 hb
    by_cases c : n ≤ M
    · exact ⟨n, h0, c, Int.le_refl _, hb⟩
    · obtain ⟨q, hq⟩ := hS
      have hq1 : 1 ≤ q := by
        by_cases c2 : 1 ≤ q
        · exact c2
        · have : size * q ≤ size * 0 := Int.mul_le_mul_of_nonneg_left (by omega) (by omega)
          omega
      have e1 := dem_round h hR (n - M)
      have e2 := lst_rounds (sl := sl) (n := n - M) (k := q) hs hg (by omega) (by omega)
      have e3 := dem_round h hR 0
      have e4 := lst_rounds (sl := sl) (n := 0) (k := q) hs hg (by omega) (by omega)
      rw [← hq] at e2 e4
      rw [show n - M + M = n by omega] at e1 e2
      rw [dem_zero h] at e3
      rw [lst_zero hs hg] at e4
      rw [show (0 : Int) + M = M by omega] at e3 e4
      by_cases c3 : q * cnt sl size < use M l
      · exact ⟨M, by omega, Int.le_refl _, by omega, by unfold Bad; omega⟩
      · obtain ⟨m, m1, m2, m3, m4⟩ := ih (n - M).toNat (by omega) (n - M) rfl (by omega) (by unfold Bad at hb ⊢; omega)
        exact ⟨m, m1, m2, by omega, m4⟩
/-- it fits just if there is enough up to a round of both -/
theorem fits_round {size : Int} {sl : List Sp} {l : List Tk} (hs : 1 ≤ size) (hg : good size (-1) sl = true) (h : ∀ x ∈ l, tok x) {M : Int} (hM : 1 ≤ M) (hR : ∀ x ∈ l, x.2.1 ∣ M) (hS : size ∣ M)
    (hf : ∀ m, 0 ≤ m → m ≤ M → ¬ Bad size sl l m) : ∀ n, 0 ≤ n → ¬ Bad size sl l n := fun n h0 hb => by
  obtain ⟨m, m1, m2, _, m4⟩ := bad_down hs hg h hM hR hS _ n rfl h0 hb
  exact hf m m1 m2 m4
/-- what wants no more fits where the other one does -/
theorem fits_less {size : Int} {sl : List Sp} {l m : List Tk} (hd : ∀ n, 0 ≤ n → dem m n ≤ dem l n) (hf : ∀ n, 0 ≤ n → ¬ Bad size sl l n) : ∀ n, 0 ≤ n → ¬ Bad size sl m n := fun n h0 hb => by
  have := hd n h0
  have := hf n h0
  unfold Bad at *
  omega
theorem all_D {size n t : Int} (hs : 1 ≤ size) (hn : 0 ≤ n) (ht : 0 ≤ t) : D size [(0, size)] n t = n := by
  have key : ∀ t, 0 ≤ t → cb size [(0, size)] t = t := by
    intro t ht
    have m1 := Int.emod_nonneg t (show size ≠ 0 by omega)
    have m2 := Int.emod_lt_of_pos t (show 0 < size by omega)
    have m3 := Int.emod_add_mul_ediv t size
    unfold cb
    simp only [cnt]
    rw [show max 0 (min size size - 0) + 0 = size by omega, Int.mul_comm]
    omega
  unfold D
  rw [key _ (by omega), key _ ht]; omega
theorem all_good {size : Int} (hs : 1 ≤ size) : good size (-1) [(0, size)] = true := good_cons.2 ⟨by simp, by simp; omega, by simp, rfl⟩
theorem all_lst {size n : Int} (hs : 1 ≤ size) (hn : 0 ≤ n) : lst size [(0, size)] n = n := by
  obtain ⟨_, t, ht, e⟩ := lst_P hs (all_good hs) hn
  rw [e, all_D hs hn ht]
/-- with all times it fits wherever it does -/
theorem fits_all {size : Int} {sl : List Sp} {l : List Tk} (hs : 1 ≤ size) (hg : good size (-1) sl = true) (hf : ∀ n, 0 ≤ n → ¬ Bad size sl l n) : ∀ n, 0 ≤ n → ¬ Bad size [(0, size)] l n := fun n h0 hb => by
  have a := hf n h0
  have b := ((lst_P hs hg h0).bd hs hg h0).2
  unfold Bad at *
  rw [all_lst hs h0] at hb
  omega
/-- a job that is due when the next one may come -/
theorem jobs_whole {x : Tk} (h : tok x) (hd : x.2.2 = x.2.1) (n : Int) : jobs x n = n / x.2.1 := by
  unfold jobs
  rw [hd, Int.sub_ediv_of_dvd n (Int.dvd_refl _), Int.ediv_self (by have := h.1; omega)]
  omega
theorem dem_whole {l : List Tk} (h : ∀ x ∈ l, tok x) (hd : ∀ x ∈ l, x.2.2 = x.2.1) {R n : Int} (hR : ∀ x ∈ l, x.2.1 ∣ R) (h1 : 0 ≤ R) (h0 : 0 ≤ n) : dem l n * R ≤ n * use R l := by
  induction l with
  | nil => simp [dem, use]
  | cons x r ih =>
    have a := ih (fun y hy => h y (by simp [hy])) (fun y hy => hd y (by simp [hy])) (fun y hy => hR y (by simp [hy]))
    have o := h x (by simp)
    obtain ⟨k, hk⟩ := hR x (by simp)
    have e1 := o.1
    have ek : R / x.2.1 = k := by rw [hk]; exact Int.mul_ediv_cancel_left _ (by omega)
    have hk0 : 0 ≤ k := by rw [← ek]; exact Int.ediv_nonneg h1 (by omega)
    have b : n / x.2.1 * x.2.1 ≤ n := Int.ediv_mul_le n (by omega)
    have hx : 0 ≤ x.1 := by have := o.2.2.2.2.1; omega
    simp only [dem, use]
    rw [jobs_whole o (hd x (by simp)), ek, Int.add_mul, Int.mul_add]
    have c : n / x.2.1 * x.2.1 * (k * x.1) ≤ n * (k * x.1) := Int.mul_le_mul_of_nonneg_right b (Int.mul_nonneg hk0 hx)
    have e : x.1 * (n / x.2.1) * R = n / x.2.1 * x.2.1 * (k * x.1) := by
      rw [hk]
      simp only [Int.mul_comm, Int.mul_left_comm]
    omega
/-- LIU, LAYLAND -/
theorem whole_iff {size : Int} {l : List Tk} (hs : 1 ≤ size) (h : ∀ x ∈ l, tok x) (hd : ∀ x ∈ l, x.2.2 = x.2.1) {R : Int} (hR : ∀ x ∈ l, x.2.1 ∣ R) (h1 : 1 ≤ R) :
    (∀ n, 0 ≤ n → ¬ Bad size [(0, size)] l n) ↔ use R l ≤ R := by
  constructor
  · intro hf
    have a := hf R (by omega)
    unfold Bad at a
    have e := dem_round h hR 0
    rw [dem_zero h, show (0 : Int) + R = R by omega] at e
    rw [all_lst hs (by omega), e] at a
    omega
  · intro hu n h0 hb
    unfold Bad at hb
    rw [all_lst hs h0] at hb
    have a := dem_whole h hd hR (by omega) h0
    have b : n * use R l ≤ n * R := Int.mul_le_mul_of_nonneg_left hu h0
    have c : n * R < dem l n * R := Int.mul_lt_mul_of_pos_right hb (by omega)
    omega
/-- a round of fewer numbers divides that of all -/
theorem round_dvd {zs ys : List Int} (hz : ∀ x ∈ zs, 1 ≤ x) (h : ∀ x ∈ ys, x ∈ zs) : NumM.lc 1 ys ∣ NumM.lc 1 zs :=
  (NumM.lc_dvd ys _ 1 (by omega) fun x hx => hz x (h x hx)).2 ⟨Int.one_dvd _, fun x hx => ((NumM.lc_dvd zs _ 1 (by omega) hz).1 (Int.dvd_refl _)).2 x (h x hx)⟩
theorem round_le {zs ys : List Int} (hz : ∀ x ∈ zs, 1 ≤ x) (h : ∀ x ∈ ys, x ∈ zs) : NumM.lc 1 ys ≤ NumM.lc 1 zs :=
  Int.le_of_dvd (by have := NumM.lc_pos zs 1 (by omega) hz; omega) (round_dvd hz h)
theorem both_dvd {p q s : Int} (hp : 1 ≤ p) (hq : 1 ≤ q) (hs : 1 ≤ s) (h : p ∣ q) : NumM.lc 1 [p, s] ∣ NumM.lc 1 [q, s] := by
  have k := (NumM.lc_dvd [q, s] (NumM.lc 1 [q, s]) 1 (by omega) (by simp; omega)).1 (Int.dvd_refl _)
  refine (NumM.lc_dvd [p, s] _ 1 (by omega) (by simp; omega)).2 ⟨Int.one_dvd _, ?_⟩
  intro x hx
  simp at hx
  rcases hx with rfl | rfl
  · exact Int.dvd_trans h (k.2 q (by simp))
  · exact k.2 x (by simp)
/-- one that needs no more, and has no less time -/
theorem jobs_less {x y : Tk} (hx : tok x) (hy : tok y) (he : y.2.1 = x.2.1) (hd : x.2.2 ≤ y.2.2) (n : Int) : jobs y n ≤ jobs x n := by
  unfold jobs
  rw [he]
  have := Int.ediv_le_ediv (show 0 < x.2.1 by have := hx.1; omega) (show n - y.2.2 ≤ n - x.2.2 by omega)
  omega
theorem dem_set {p r : List Tk} {x y : Tk} (hx : tok x) (hy : tok y) (he : y.2.1 = x.2.1) (hd : x.2.2 ≤ y.2.2) (hl : y.1 ≤ x.1) {n : Int} (h0 : 0 ≤ n) : dem (p ++ y :: r) n ≤ dem (p ++ x :: r) n := by
  rw [dem_append, dem_append]
  simp only [dem]
  have a := jobs_less hx hy he hd n
  have b := jobs_pos hy h0
  have c := Int.mul_le_mul_of_nonneg_right hl b
  have d := Int.mul_le_mul_of_nonneg_left a (show 0 ≤ x.1 by have := hx.2.2.2.2.1; omega)
  omega
theorem dem_del {p r : List Tk} {x : Tk} (hx : tok x) {n : Int} (h0 : 0 ≤ n) : dem (p ++ r) n ≤ dem (p ++ x :: r) n := by
  rw [dem_append, dem_append]
  simp only [dem]
  have := Int.mul_nonneg (show 0 ≤ x.1 by have := hx.2.2.2.2.1; omega) (jobs_pos hx h0)
  omega
end TaskM
end Go.Proofs.Ytpnahhpkaegeeaa

/- Plain mathematics of plays: jobs that come and are due, and one of them worked at a time. -/
set_option linter.unusedVariables false
namespace Go.Proofs.Ytpnahhpkaegeeaa
namespace PlayM
/-- the sum of f over those below n of which P says so -/
def sumP (P : Nat → Bool) (f : Nat → Int) : Nat → Int
  | 0 => 0
  | n + 1 => sumP P f n + (if P n = true then f n else 0)
theorem sumP_le {P : Nat → Bool} {f g : Nat → Int} {n : Nat} (h : ∀ i, i < n → P i = true → f i ≤ g i) : sumP P f n ≤ sumP P g n := by
  induction n with
  | zero => simp [sumP]
  | succ n ih =>
    have a := ih fun i hi => h i (by omega)
    simp only [sumP]
    split
    · have := h n (by omega) ‹_›; omega
    · omega
theorem sumP_eq {P : Nat → Bool} {f g : Nat → Int} {n : Nat} (h : ∀ i, i < n → P i = true → f i = g i) : sumP P f n = sumP P g n := by
  have a := sumP_le (P := P) (f := f) (g := g) (n := n) fun i hi hp => by rw [h i hi hp]; exact Int.le_refl _
  have b := sumP_le (P := P) (f := g) (g := f) (n := n) fun i hi hp => by rw [h i hi hp]; exact Int.le_refl _
  omega
theorem sumP_nonneg {P : Nat → Bool} {f : Nat → Int} {n : Nat} (h : ∀ i, i < n → P i = true → 0 ≤ f i) : 0 ≤ sumP P f n := by
  induction n with
  | zero => simp [sumP]
  | succ n ih =>
    have a := ih fun i hi => h i (by omega)
    simp only [sumP]
    split
    · have := h n (by omega) ‹_›; omega
    · omega
/-- each is no more than all -/
theorem sumP_each {P : Nat → Bool} {f : Nat → Int} {n : Nat} (h : ∀ i, i < n → P i = true → 0 ≤ f i) {j : Nat} (hj : j < n) (hp : P j = true) : f j ≤ sumP P f n := by
  induction n with
  | zero => omega
  | succ n ih =>
    have a := sumP_nonneg (P := P) (f := f) (n := n) fun i hi => h i (by omega)
    simp only [sumP]
    by_cases c : j = n
    · subst c
      rw [if_pos hp]; omega
    · have := ih (fun i hi => h i (by omega)) (by omega)
      split
      · have := h n (by omega) ‹_›; omega
      · omega
/-- one of them has one less -/
theorem sumP_dec {P : Nat → Bool} {f g : Nat → Int} {n b : Nat} (hb : b < n) (hg : g b = f b - 1) (ho : ∀ i, i ≠ b → g i = f i) : sumP P g n = sumP P f n - (if P b = true then 1 else 0) := by
  induction n with
  | zero => omega
  | succ n ih =>
    simp only [sumP]
    by_cases c : b = n
    · subst c
      rw [sumP_eq (f := g) (g := f) fun i hi _ => ho i (by omega), hg]
      split <;> omega
    · rw [ih (by omega), ho n (by omega)]; omega
theorem sumP_pos {P : Nat → Bool} {f : Nat → Int} {n : Nat} (h : 0 < sumP P f n) : ∃ i, i < n ∧ P i = true ∧ 0 < f i := by
  induction n with
  | zero => simp [sumP] at h
  | succ n ih =>
    simp only [sumP] at h
    by_cases c : 0 < sumP P f n
    · obtain ⟨i, h1, h2⟩ := ih c
      exact ⟨i, by omega, h2⟩
    · split at h
      · exact ⟨n, by omega, ‹_›, by omega⟩
      · omega
/-- how many of the times below n there are -/
def av (a : Nat → Bool) : Nat → Int
  | 0 => 0
  | n + 1 => av a n + (if a n = true then 1 else 0)

/-- jobs: when they come, when they are due, how long they take -/
structure Jobs where
  n : Nat
  came : Nat → Nat
  due : Nat → Nat
  long : Nat → Int
/-- may be worked at -/
def Pend (J : Jobs) (L : Nat → Int) (t i : Nat) : Prop := i < J.n ∧ J.came i ≤ t ∧ 0 < L i
/-- what is left of each, time by time, below T; c: at which is worked -/
structure Run (J : Jobs) (a : Nat → Bool) (T : Nat) (L : Nat → Nat → Int) (c : Nat → Option Nat) : Prop where
  start : ∀ i, i < J.n → L 0 i = J.long i
  off : ∀ t, t < T → a t = false → L (t + 1) = L t
  idle : ∀ t, t < T → a t = true → c t = none → L (t + 1) = L t ∧ ∀ i, ¬ Pend J (L t) t i
  work : ∀ t b, t < T → a t = true → c t = some b → Pend J (L t) t b ∧ L (t + 1) b = L t b - 1 ∧ ∀ i, i ≠ b → L (t + 1) i = L t i
/-- that goes first which is due first -/
def Edf (J : Jobs) (a : Nat → Bool) (T : Nat) (L : Nat → Nat → Int) (c : Nat → Option Nat) : Prop := ∀ t b, t < T → a t = true → c t = some b → ∀ i, Pend J (L t) t i → J.due b ≤ J.due i
variable {J : Jobs} {a : Nat → Bool} {T : Nat} {L : Nat → Nat → Int} {c : Nat → Option Nat}
/-- one step: it is as it was, or one has one less -/
theorem Run.step (h : Run J a T L c) {t : Nat} (ht : t < T) : (L (t + 1) = L t ∧ (a t = true → c t = none ∧ ∀ i, ¬ Pend J (L t) t i)) ∨ ∃ b, a t = true ∧ c t = some b ∧ Pend J (L t) t b ∧ L (t + 1) b = L t b - 1 ∧ ∀ i, i ≠ b → L (t + 1) i = L t i := by
  cases ha : a t with
  | false => exact .inl ⟨h.off t ht ha, fun e => by simp at e⟩
  | true =>
    cases hc : c t with
    | none => obtain ⟨h1, h2⟩ := h.idle t ht ha hc; exact .inl ⟨h1, fun _ => ⟨rfl, h2⟩⟩
    | some b => obtain ⟨h1, h2, h3⟩ := h.work t b ht ha hc; exact .inr ⟨b, rfl, rfl, h1, h2, h3⟩
theorem Run.down (h : Run J a T L c) {t : Nat} (ht : t < T) (i : Nat) : L (t + 1) i ≤ L t i := by
  rcases h.step ht with ⟨e, _⟩ | ⟨b, _, _, _, h2, h3⟩
  · rw [e]; exact Int.le_refl _
  · by_cases c : i = b
    · subst c; omega
    · rw [h3 i c]; exact Int.le_refl _
theorem Run.anti (h : Run J a T L c) {s t : Nat} (hs : s ≤ t) (ht : t ≤ T) (i : Nat) : L t i ≤ L s i := by
  obtain ⟨k, rfl⟩ : ∃ k, t = s + k := ⟨t - s, by omega⟩
  induction k with
  | zero => exact Int.le_refl _
  | succ k ih =>
    have a := ih (by omega) (by omega)
    have b := h.down (t := s + k) (by omega) i
    rw [show s + (k + 1) = s + k + 1 by omega]; omega
theorem Run.nonneg (h : Run J a T L c) (hl : ∀ i, i < J.n → 0 ≤ J.long i) {t : Nat} (ht : t ≤ T) {i : Nat} (hi : i < J.n) : 0 ≤ L t i := by
  induction t with
  | zero => rw [h.start i hi]; exact hl i hi
  | succ t ih =>
    have a := ih (by omega)
    rcases h.step (t := t) (by omega) with ⟨e, _⟩ | ⟨b, _, _, h1, h2, h3⟩
    · rw [e]; exact a
    · by_cases c : i = b
      · subst c; have := h1.2.2; omega
      · rw [h3 i c]; exact a
/-- ahead of when it comes nothing is done of it -/
theorem Run.fresh (h : Run J a T L c) {t : Nat} (ht : t ≤ T) {i : Nat} (hi : i < J.n) (hc : t ≤ J.came i) : L t i = J.long i := by
  induction t with
  | zero => exact h.start i hi
  | succ t ih =>
    have e0 := ih (by omega) (by omega)
    rcases h.step (t := t) (by omega) with ⟨e, _⟩ | ⟨b, _, _, h1, h2, h3⟩
    · rw [e]; exact e0
    · by_cases c : i = b
      · subst c; have := h1.2.1; omega
      · rw [h3 i c]; exact e0
/-- of any jobs no more is done than there are times -/
theorem Run.most (h : Run J a T L c) (P : Nat → Bool) {s t : Nat} (hs : s ≤ t) (ht : t ≤ T) : sumP P (L s) J.n - sumP P (L t) J.n ≤ av a t - av a s := by
  obtain ⟨k, rfl⟩ : ∃ k, t = s + k := ⟨t - s, by omega⟩
  induction k with
  | zero => simp
  | succ k ih =>
    have e0 := ih (by omega) (by omega)
    rw [show s + (k + 1) = s + k + 1 by omega]
    simp only [av]
    rcases h.step (t := s + k) (by omega) with ⟨e, _⟩ | ⟨b, ha, _, h1, h2, h3⟩
    · rw [e]; split <;> omega
    · rw [sumP_dec h1.1 h2 h3, ha]
      simp only [if_true]
      split <;> omega
/-- the jobs that come from s on and are due by d -/
def within (J : Jobs) (s d : Nat) (i : Nat) : Bool := decide (s ≤ J.came i) && decide (J.due i ≤ d)
theorem within_iff {s d i : Nat} : within J s d i = true ↔ s ≤ J.came i ∧ J.due i ≤ d := by simp [within]
/-- where all that are due by d are done by then, they need no more than there is -/
theorem Run.enough (h : Run J a T L c) {s d : Nat} (hs : s ≤ d) (hd : d ≤ T) (hl : ∀ i, i < J.n → 0 ≤ J.long i) (hdone : ∀ i, i < J.n → J.due i ≤ d → L (J.due i) i = 0) :
    sumP (within J s d) J.long J.n ≤ av a d - av a s := by
  have m := h.most (within J s d) hs hd
  have e1 : sumP (within J s d) (L s) J.n = sumP (within J s d) J.long J.n := sumP_eq fun i hi hp => h.fresh (by omega) hi (within_iff.1 hp).1
  have e2 : sumP (within J s d) (L d) J.n ≤ sumP (within J s d) (fun _ => 0) J.n := sumP_le fun i hi hp => by
    have := h.anti (within_iff.1 hp).2 hd i
    rw [hdone i hi (within_iff.1 hp).2] at this
    exact this
  have e3 : ∀ n, sumP (within J s d) (fun _ => 0) n = 0 := by
    intro n
    induction n with
    | zero => rfl
    | succ n ih => simp only [sumP, ih]; split <;> rfl
  rw [e1] at m
  rw [e3] at e2
  omega
/-- where there is too little some job is late -/
theorem Run.misses (h : Run J a T L c) {s d : Nat} (hs : s ≤ d) (hd : d ≤ T) (hlt : av a d - av a s < sumP (within J s d) J.long J.n) :
    ∃ i, i < J.n ∧ s ≤ J.came i ∧ J.due i ≤ d ∧ 0 < L (J.due i) i := by
  have m := h.most (within J s d) hs hd
  have e1 : sumP (within J s d) (L s) J.n = sumP (within J s d) J.long J.n := sumP_eq fun i hi hp => h.fresh (by omega) hi (within_iff.1 hp).1
  rw [e1] at m
  obtain ⟨i, hi, hp, hpos⟩ := sumP_pos (P := within J s d) (f := L d) (n := J.n) (by omega)
  have := h.anti (within_iff.1 hp).2 hd i
  exact ⟨i, hi, (within_iff.1 hp).1, (within_iff.1 hp).2, by omega⟩
/-- the last time ahead of d at which Q did not hold -/
theorem last_not (Q : Nat → Prop) (d : Nat) : ∃ s, s ≤ d ∧ (∀ t, s ≤ t → t < d → Q t) ∧ (s = 0 ∨ ∃ u, s = u + 1 ∧ ¬ Q u) := by
  induction d with
  | zero => exact ⟨0, Nat.le_refl _, fun t h1 h2 => by omega, .inl rfl⟩
  | succ d ih =>
    by_cases hq : Q d
    · obtain ⟨s, h1, h2, h3⟩ := ih
      refine ⟨s, by omega, fun t t1 t2 => ?_, h3⟩
      by_cases e : t = d
      · subst e; exact hq
      · exact h2 t t1 (by omega)
    · exact ⟨d + 1, Nat.le_refl _, fun t h1 h2 => by omega, .inr ⟨d, rfl, hq⟩⟩
/-- BARUAH: where there is enough from every time on, no job is late, if that goes first which is due first -/
theorem Run.edf (h : Run J a T L c) (he : Edf J a T L c) (hl : ∀ i, i < J.n → 0 ≤ J.long i) {d : Nat} (hd : d ≤ T)
    (hs : ∀ s, s ≤ d → sumP (within J s d) J.long J.n ≤ av a d - av a s) {j : Nat} (hj : j < J.n) (hdj : J.due j ≤ d) : L d j = 0 := by
  obtain ⟨s, s1, s2, s3⟩ := last_not (fun t => a t = true → ∃ b, c t = some b ∧ J.due b ≤ d) d
  -- behind s no job that came ahead of it and is due by d has anything left
  have old : ∀ i, i < J.n → J.due i ≤ d → s ≤ J.came i ∨ L s i = 0 := by
    intro i hi hdi
    rcases s3 with rfl | ⟨u, rfl, hu⟩
    · exact .inl (Nat.zero_le _)
    · by_cases hc : u + 1 ≤ J.came i
      · exact .inl hc
      · right
        have hut : u < T := by omega
        have hau : a u = true := by
          cases ha : a u with
          | true => rfl
          | false => exact absurd (fun e => by rw [ha] at e; cases e) hu
        have hnp : ¬ Pend J (L u) u i := by
          intro hp
          cases hcu : c u with
          | none => exact (h.idle u hut hau hcu).2 i hp
          | some b =>
            have := he u b hut hau hcu i hp
            exact hu fun _ => ⟨b, hcu, by omega⟩
        have h0 := h.nonneg hl (show u ≤ T by omega) hi
        have hz : L u i = 0 := by
          by_cases hz : L u i = 0
          · exact hz
          · exact absurd ⟨hi, by omega, by omega⟩ hnp
        have a1 := h.down hut i
        have a2 := h.nonneg hl (show u + 1 ≤ T by omega) hi
        omega
  -- from s on each time there is takes one of what is left of these
  have fall : ∀ k, s + k ≤ d → sumP (within J s d) (L (s + k)) J.n = sumP (within J s d) (L s) J.n - (av a (s + k) - av a s) := by
    intro k
    induction k with
    | zero => intro _; simp
    | succ k ih =>
      intro hk
      have e0 := ih (by omega)
      rw [show s + (k + 1) = s + k + 1 by omega]
      simp only [av]
      cases ha : a (s + k) with
      | false =>
        rw [h.off (s + k) (by omega) ha, e0]
        simp
      | true =>
        obtain ⟨b, hb, hdb⟩ := s2 (s + k) (by omega) (by omega) ha
        obtain ⟨h1, h2, h3⟩ := h.work (s + k) b (by omega) ha hb
        have hw : within J s d b = true := by
          rcases old b h1.1 hdb with hc | hz
          · exact within_iff.2 ⟨hc, hdb⟩
          · have := h.anti (show s ≤ s + k by omega) (by omega) b
            have := h1.2.2
            omega
        rw [sumP_dec h1.1 h2 h3, e0, hw]
        simp only [if_true]
        omega
  have f := fall (d - s) (by omega)
  rw [show s + (d - s) = d by omega] at f
  have e1 : sumP (within J s d) (L s) J.n = sumP (within J s d) J.long J.n := sumP_eq fun i hi hp => h.fresh (by omega) hi (within_iff.1 hp).1
  have g := hs s s1
  have nn : ∀ i, i < J.n → within J s d i = true → 0 ≤ L d i := fun i hi _ => h.nonneg hl hd hi
  have h0 := h.nonneg hl hd hj
  rcases old j hj hdj with hc | hz
  · have := sumP_each nn hj (within_iff.2 ⟨hc, hdj⟩)
    omega
  · have := h.anti s1 hd j
    omega
/-- DERTOUZOS: what some order keeps, the earliest due keeps -/
theorem Run.best {L' : Nat → Nat → Int} {c' : Nat → Option Nat} (h : Run J a T L c) (he : Edf J a T L c) (h' : Run J a T L' c') (hl : ∀ i, i < J.n → 0 ≤ J.long i)
    (hdone : ∀ i, i < J.n → J.due i ≤ T → L' (J.due i) i = 0) {j : Nat} (hj : j < J.n) (hdj : J.due j ≤ T) : L (J.due j) j = 0 :=
  h.edf he hl hdj (fun s hs => h'.enough hs hdj hl fun i hi hd => hdone i hi (by omega)) hj (Nat.le_refl _)
end PlayM
end Go.Proofs.Ytpnahhpkaegeeaa

/- Plain mathematics of plays: jobs of tasks that come again; what they demand from a time on; the times of a set. -/
set_option linter.unusedVariables false
namespace Go.Proofs.Ytpnahhpkaegeeaa
open SpanM SupM TaskM
namespace PlayM
/-- came, due, long -/
abbrev Jb := Nat × Nat × Int
def ofList (js : List Jb) : Jobs where
  n := js.length
  came i := (js.getD i (0, 0, 0)).1
  due i := (js.getD i (0, 0, 0)).2.1
  long i := (js.getD i (0, 0, 0)).2.2
def lsum (P : Jb → Bool) : List Jb → Int
  | [] => 0
  | x :: r => (if P x = true then x.2.2 else 0) + lsum P r
theorem lsum_append (P : Jb → Bool) (l r : List Jb) : lsum P (l ++ r) = lsum P l + lsum P r := by
  induction l with
  | nil => simp [lsum]
  | cons x s ih => simp only [List.cons_append, lsum, ih]; omega
theorem lsum_snoc (P : Jb → Bool) (l : List Jb) (x : Jb) : lsum P (l ++ [x]) = lsum P l + (if P x = true then x.2.2 else 0) := by
  rw [lsum_append]; simp [lsum]
def inJ (s d : Nat) (x : Jb) : Bool := decide (s ≤ x.1) && decide (x.2.1 ≤ d)
theorem take_snocJ (l : List Jb) (k : Nat) (h : k < l.length) : l.take (k + 1) = l.take k ++ [l.getD k (0, 0, 0)] := by
  rw [List.take_succ_eq_append_getElem h]; simp [List.getD, h]
theorem sum_list (js : List Jb) (s d : Nat) : sumP (within (ofList js) s d) (ofList js).long (ofList js).n = lsum (inJ s d) js := by
  have : ∀ k, k ≤ js.length → sumP (within (ofList js) s d) (ofList js).long k = lsum (inJ s d) (js.take k) := by
    intro k
    induction k with
    | zero => intro _; simp [sumP, lsum]
    | succ k ih =>
      intro hk
      simp only [sumP]
      rw [ih (by omega), take_snocJ js k (by omega), lsum_snoc]
      rfl
  have h := this js.length (Nat.le_refl _)
  rw [List.take_length] at h
  exact h
/-- jobs of one task: the first m -/
def perTask (x : Tk) (f : Nat) : Nat → List Jb
  | 0 => []
  | m + 1 => perTask x f m ++ [(f + m * x.2.1.toNat, f + m * x.2.1.toNat + x.2.2.toNat, x.1)]
theorem ediv_add_le (p q e : Int) (he : 0 < e) : p / e + q / e ≤ (p + q) / e := by
  refine (Int.le_ediv_iff_mul_le he).2 ?_
  have a := Int.ediv_mul_le p (show e ≠ 0 by omega)
  have b := Int.ediv_mul_le q (show e ≠ 0 by omega)
  rw [Int.add_mul]; omega
/-- of one task no more jobs come from s on and are due by d than its share of so much time -/
theorem per_count {x : Tk} (h : tok x) (f s d : Nat) (hs : s ≤ d) (m : Nat) : lsum (inJ s d) (perTask x f m) ≤ x.1 * jobs x ((d : Int) - s) := by
  obtain ⟨e1, e2, d1, d2, g1, g2⟩ := h
  -- between A and B
  have key : ∀ m : Nat, ∃ c : Int, lsum (inJ s d) (perTask x f m) = x.1 * c ∧ 0 ≤ c ∧ (c = 0 ∨ c ≤ min ((d : Int) - x.2.2 - f) ((m - 1) * x.2.1) / x.2.1 + ((f : Int) - s) / x.2.1 + 1) := by
    intro m
    induction m with
    | zero => exact ⟨0, by simp [perTask, lsum], Int.le_refl _, .inl rfl⟩
    | succ m ih =>
      obtain ⟨c, c1, c2, c3⟩ := ih
      have et : ((x.2.1.toNat : Nat) : Int) = x.2.1 := by omega
      have dt : ((x.2.2.toNat : Nat) : Int) = x.2.2 := by omega
      have em : ((m * x.2.1.toNat : Nat) : Int) = (m : Int) * x.2.1 := by rw [Int.natCast_mul, et]
      have up : min ((d : Int) - x.2.2 - f) ((m - 1 : Int) * x.2.1) / x.2.1 ≤ min ((d : Int) - x.2.2 - f) (((m + 1 : Nat) - 1 : Int) * x.2.1) / x.2.1 := by
        refine Int.ediv_le_ediv (by omega) ?_
        have : (m - 1 : Int) * x.2.1 ≤ ((m + 1 : Nat) - 1 : Int) * x.2.1 := Int.mul_le_mul_of_nonneg_right (by omega) (by omega)
        omega
      simp only [perTask]
      rw [lsum_snoc, c1]
      by_cases hp : inJ s d (f + m * x.2.1.toNat, f + m * x.2.1.toNat + x.2.2.toNat, x.1) = true
      · rw [if_pos hp]
        refine ⟨c + 1, by rw [Int.mul_add]; simp, by omega, .inr ?_⟩
        simp [inJ] at hp
        obtain ⟨p1, p2⟩ := hp
        have p1' : (s : Int) ≤ f + (m : Int) * x.2.1 := by rw [← em]; omega
        have p2' : (f : Int) + (m : Int) * x.2.1 + x.2.2 ≤ d := by rw [← em, ← dt]; omega
        have q1 : min ((d : Int) - x.2.2 - f) (((m + 1 : Nat) - 1 : Int) * x.2.1) = (m : Int) * x.2.1 := by
          rw [show ((m + 1 : Nat) - 1 : Int) = (m : Int) by omega]; omega
        have q2 : (m : Int) * x.2.1 / x.2.1 = m := Int.mul_ediv_cancel _ (by omega)
        have q3 : -(m : Int) ≤ ((f : Int) - s) / x.2.1 := (Int.le_ediv_iff_mul_le (by omega)).2 (by rw [Int.neg_mul]; omega)
        rw [q1, q2]
        rcases c3 with c3 | c3
        · omega
        · have q4 : min ((d : Int) - x.2.2 - f) ((m - 1 : Int) * x.2.1) / x.2.1 ≤ m - 1 := by
            have a : min ((d : Int) - x.2.2 - f) ((m - 1 : Int) * x.2.1) ≤ (m - 1 : Int) * x.2.1 := by omega
            have b := Int.ediv_le_ediv (show 0 < x.2.1 by omega) a
            rw [Int.mul_ediv_cancel _ (by omega)] at b
            exact b
          omega
      · rw [if_neg hp]
        refine ⟨c, by simp, c2, ?_⟩
        rcases c3 with c3 | c3
        · exact .inl c3
        · exact .inr (by omega)
  obtain ⟨c, c1, c2, c3⟩ := key m
  rw [c1]
  have jp := jobs_pos (x := x) ⟨e1, e2, d1, d2, g1, g2⟩ (show 0 ≤ (d : Int) - s by omega)
  refine Int.mul_le_mul_of_nonneg_left ?_ (by omega)
  rcases c3 with c3 | c3
  · omega
  · have a : min ((d : Int) - x.2.2 - f) ((m - 1 : Int) * x.2.1) / x.2.1 ≤ ((d : Int) - x.2.2 - f) / x.2.1 := Int.ediv_le_ediv (by omega) (by omega)
    have b := ediv_add_le ((d : Int) - x.2.2 - f) ((f : Int) - s) x.2.1 (by omega)
    rw [show (d : Int) - x.2.2 - f + (f - s) = d - s - x.2.2 by omega] at b
    unfold jobs
    omega
/-- jobs of tasks, each with when it begins to come and how many of its jobs there are -/
def allJobs : List (Tk × Nat × Nat) → List Jb
  | [] => []
  | y :: r => perTask y.1 y.2.1 y.2.2 ++ allJobs r
theorem all_count {ys : List (Tk × Nat × Nat)} (h : ∀ y ∈ ys, tok y.1) {s d : Nat} (hs : s ≤ d) : lsum (inJ s d) (allJobs ys) ≤ dem (ys.map (·.1)) ((d : Int) - s) := by
  induction ys with
  | nil => simp [allJobs, lsum, dem]
  | cons y r ih =>
    have a := ih fun z hz => h z (by simp [hz])
    have b := per_count (h y (by simp)) y.2.1 s d hs y.2.2
    simp only [allJobs, List.map_cons, dem]
    rw [lsum_append]; omega
/-- where all come at once, and all that are due by then are there, it is just that -/
theorem per_exact {x : Tk} (h : tok x) (f d m : Nat) (hd : f ≤ d) (hm : jobs x ((d : Int) - f) ≤ m) : lsum (inJ f d) (perTask x f m) = x.1 * jobs x ((d : Int) - f) := by
  have key : ∀ m : Nat, lsum (inJ f d) (perTask x f m) = x.1 * min (jobs x ((d : Int) - f)) m := by
    intro m
    have jp := jobs_pos h (show 0 ≤ (d : Int) - f by omega)
    obtain ⟨e1, e2, d1, d2, g1, g2⟩ := h
    induction m with
    | zero => rw [show min (jobs x ((d : Int) - f)) ((0 : Nat) : Int) = 0 by omega]; simp [perTask, lsum]
    | succ m ih =>
      have et : ((x.2.1.toNat : Nat) : Int) = x.2.1 := by omega
      have dt : ((x.2.2.toNat : Nat) : Int) = x.2.2 := by omega
      have em : ((m * x.2.1.toNat : Nat) : Int) = (m : Int) * x.2.1 := by rw [Int.natCast_mul, et]
      simp only [perTask]
      rw [lsum_snoc, ih]
      have hi := jobs_iff (x := x) ⟨e1, e2, d1, d2, g1, g2⟩ (show 0 ≤ (d : Int) - f by omega) (m : Int) (by omega)
      by_cases c : (m : Int) < jobs x ((d : Int) - f)
      · have hle := hi.2 c
        have hp : inJ f d (f + m * x.2.1.toNat, f + m * x.2.1.toNat + x.2.2.toNat, x.1) = true := by
          simp [inJ]
          omega
        rw [if_pos hp, show min (jobs x ((d : Int) - f)) (m : Int) = m by omega, show min (jobs x ((d : Int) - f)) ((m + 1 : Nat) : Int) = (m : Int) + 1 by omega, Int.mul_add]
        simp
      · have hnle : ¬ (m : Int) * x.2.1 + x.2.2 ≤ (d : Int) - f := fun hh => c (hi.1 hh)
        have hp : ¬ inJ f d (f + m * x.2.1.toNat, f + m * x.2.1.toNat + x.2.2.toNat, x.1) = true := by
          simp [inJ]
          omega
        rw [if_neg hp, show min (jobs x ((d : Int) - f)) (m : Int) = jobs x ((d : Int) - f) by omega, show min (jobs x ((d : Int) - f)) ((m + 1 : Nat) : Int) = jobs x ((d : Int) - f) by omega]
        simp
  rw [key m, show min (jobs x ((d : Int) - f)) (m : Int) = jobs x ((d : Int) - f) by omega]
/-- the times of a set -/
def inS (size : Int) (sl : List Sp) (t : Nat) : Bool := mem sl ((t : Int) % size)
theorem av_cb {size : Int} {sl : List Sp} (hs : 1 ≤ size) (hg : good size (-1) sl = true) (n : Nat) : av (inS size sl) n = cb size sl n := by
  rw [cb_num hs hg n]
  induction n with
  | zero => rfl
  | succ n ih =>
    simp only [av, num, ih]
    rfl
theorem av_D {size : Int} {sl : List Sp} (hs : 1 ≤ size) (hg : good size (-1) sl = true) {s d : Nat} (h : s ≤ d) : av (inS size sl) d - av (inS size sl) s = D size sl ((d : Int) - s) s := by
  rw [av_cb hs hg, av_cb hs hg]
  unfold D
  rw [show (s : Int) + ((d : Int) - s) = d by omega]
/-- where it fits there is enough from every time on -/
theorem fits_enough {size : Int} {sl : List Sp} (hs : 1 ≤ size) (hg : good size (-1) sl = true) {ys : List (Tk × Nat × Nat)} (h : ∀ y ∈ ys, tok y.1) (hf : ∀ n, 0 ≤ n → ¬ Bad size sl (ys.map (·.1)) n) {s d : Nat} (hsd : s ≤ d) :
    sumP (within (ofList (allJobs ys)) s d) (ofList (allJobs ys)).long (ofList (allJobs ys)).n ≤ av (inS size sl) d - av (inS size sl) s := by
  rw [sum_list, av_D hs hg hsd]
  have a := all_count h hsd
  have b := hf ((d : Int) - s) (by omega)
  have c := (lst_P hs hg (show 0 ≤ (d : Int) - s by omega)).1 s (by omega)
  unfold Bad at b
  omega
end PlayM
end Go.Proofs.Ytpnahhpkaegeeaa

/- Plain mathematics of plays by the order of tasks: how long it takes. -/
set_option linter.unusedVariables false
namespace Go.Proofs.Ytpnahhpkaegeeaa
open SpanM SupM TaskM
namespace PlayM
variable {J : Jobs} {a : Nat → Bool} {T : Nat} {L : Nat → Nat → Int} {c : Nat → Option Nat}
/-- that of the task with the least number goes first -/
def Fix (J : Jobs) (a : Nat → Bool) (T : Nat) (L : Nat → Nat → Int) (c : Nat → Option Nat) (prio : Nat → Nat) : Prop := ∀ t b, t < T → a t = true → c t = some b → ∀ i, Pend J (L t) t i → prio b ≤ prio i
/-- those up to p that come from s on, below e -/
def comes (J : Jobs) (prio : Nat → Nat) (p s e : Nat) (i : Nat) : Bool := decide (prio i ≤ p) && decide (s ≤ J.came i) && decide (J.came i < e)
theorem comes_iff {prio : Nat → Nat} {p s e i : Nat} : comes J prio p s e i = true ↔ prio i ≤ p ∧ s ≤ J.came i ∧ J.came i < e := by simp [comes, and_assoc]
/-- the greatest below or at t of which Z holds, if it holds of 0 -/
theorem greatest (Z : Nat → Prop) (h0 : Z 0) (t : Nat) : ∃ s, s ≤ t ∧ Z s ∧ ∀ u, s < u → u ≤ t → ¬ Z u := by
  induction t with
  | zero => exact ⟨0, Nat.le_refl _, h0, fun u h1 h2 => by omega⟩
  | succ t ih =>
    by_cases hz : Z (t + 1)
    · exact ⟨t + 1, Nat.le_refl _, hz, fun u h1 h2 => by omega⟩
    · obtain ⟨s, h1, h2, h3⟩ := ih
      refine ⟨s, by omega, h2, fun u u1 u2 => ?_⟩
      by_cases e : u = t + 1
      · subst e; exact hz
      · exact h3 u u1 (by omega)
/-- while some of those up to p may be worked at, each time there is takes one of what is left of them -/
theorem Run.busy (h : Run J a T L c) {prio : Nat → Nat} (hf : Fix J a T L c prio) {p s : Nat} (n : Nat) (hT : s + n ≤ T)
    (hz : ∀ i, i < J.n → prio i ≤ p → J.came i < s → L s i = 0) (hb : ∀ u, s ≤ u → u < s + n → ∃ i, Pend J (L u) u i ∧ prio i ≤ p) :
    ∀ k, k ≤ n → sumP (comes J prio p s (s + n)) (L (s + k)) J.n = sumP (comes J prio p s (s + n)) (L s) J.n - (av a (s + k) - av a s) := by
  intro k
  induction k with
  | zero => intro _; simp
  | succ k ih =>
    intro hk
    have e0 := ih (by omega)
    rw [show s + (k + 1) = s + k + 1 by omega]
    simp only [av]
    cases ha : a (s + k) with
    | false =>
      rw [h.off (s + k) (by omega) ha, e0]
      simp
    | true =>
      obtain ⟨i, hi, hip⟩ := hb (s + k) (by omega) (by omega)
      cases hc : c (s + k) with
      | none => exact absurd hi ((h.idle (s + k) (by omega) ha hc).2 i)
      | some b =>
        obtain ⟨h1, h2, h3⟩ := h.work (s + k) b (by omega) ha hc
        have hpb := hf (s + k) b (by omega) ha hc i hi
        have hcb : s ≤ J.came b := by
          by_cases cc : s ≤ J.came b
          · exact cc
          · have x := hz b h1.1 (by omega) (by omega)
            have y := h.anti (show s ≤ s + k by omega) (by omega) b
            have := h1.2.2
            omega
        have hw : comes J prio p s (s + n) b = true := comes_iff.2 ⟨by omega, hcb, by have := h1.2.1; omega⟩
        rw [sumP_dec h1.1 h2 h3, e0, hw]
        simp only [if_true]
        omega
/-- LEHOCZKY, SHA, DING: where n times are enough for whatever comes in n times, up to p, each job up to p is done within n -/
theorem Run.reply (h : Run J a T L c) {prio : Nat → Nat} (hf : Fix J a T L c prio) (hl : ∀ i, i < J.n → 0 ≤ J.long i) {p n : Nat} (hn : 1 ≤ n)
    (hneed : ∀ s, s + n ≤ T → sumP (comes J prio p s (s + n)) J.long J.n ≤ av a (s + n) - av a s) {j : Nat} (hj : j < J.n) (hp : prio j ≤ p) (hT : J.came j + n ≤ T) : L (J.came j + n) j = 0 := by
  have h0 := h.nonneg hl hT hj
  by_cases hd : L (J.came j + n) j = 0
  · exact hd
  exfalso
  obtain ⟨s, s1, s2, s3⟩ := greatest (fun s => ∀ i, i < J.n → prio i ≤ p → J.came i < s → L s i = 0) (fun i _ _ hc => by omega) (J.came j)
  have pend : ∀ u, s ≤ u → u < J.came j + n → ∃ i, Pend J (L u) u i ∧ prio i ≤ p := by
    intro u u1 u2
    by_cases cu : u < J.came j
    · have hz := s3 (u + 1) (by omega) (by omega)
      -- some job up to p came by u and isn't done behind it
      have : ∃ i, i < J.n ∧ prio i ≤ p ∧ J.came i < u + 1 ∧ L (u + 1) i ≠ 0 := by
        apply Classical.byContradiction
        intro hno
        apply hz
        intro i hi hpi hci
        apply Classical.byContradiction
        intro hne
        exact hno ⟨i, hi, hpi, hci, hne⟩
      obtain ⟨i, hi, hpi, hci, hne⟩ := this
      have x := h.nonneg hl (show u + 1 ≤ T by omega) hi
      have y := h.down (show u < T by omega) i
      exact ⟨i, ⟨hi, by omega, by omega⟩, hpi⟩
    · have y := h.anti (show u ≤ J.came j + n by omega) hT j
      exact ⟨j, ⟨hj, by omega, by omega⟩, hp⟩
  have fall := h.busy hf n (by omega) s2 (fun u u1 u2 => pend u u1 (by omega)) n (Nat.le_refl _)
  have e1 : sumP (comes J prio p s (s + n)) (L s) J.n = sumP (comes J prio p s (s + n)) J.long J.n := sumP_eq fun i hi hp => h.fresh (by omega) hi (comes_iff.1 hp).2.1
  have g := hneed s (by omega)
  have nn : ∀ i, i < J.n → comes J prio p s (s + n) i = true → 0 ≤ L (s + n) i := fun i hi _ => h.nonneg hl (by omega) hi
  have zero : ∀ i, i < J.n → comes J prio p s (s + n) i = true → L (s + n) i = 0 := fun i hi hc => by
    have x := sumP_each nn hi hc
    have y := nn i hi hc
    omega
  by_cases cs : s + n ≤ J.came j
  · refine s3 (s + n) (by omega) cs fun i hi hpi hci => ?_
    by_cases cc : J.came i < s
    · have x := s2 i hi hpi cc
      have y := h.anti (show s ≤ s + n by omega) (by omega) i
      have z := h.nonneg hl (show s + n ≤ T by omega) hi
      omega
    · exact zero i hi (comes_iff.2 ⟨hpi, by omega, hci⟩)
  · have x := zero j hj (comes_iff.2 ⟨hp, by omega, by omega⟩)
    have y := h.anti (show s + n ≤ J.came j + n by omega) hT j
    omega
/-- how many come -/
def inC (s e : Nat) (x : Jb) : Bool := decide (s ≤ x.1) && decide (x.1 < e)
/-- n by e, rounded up -/
def up (n e : Int) : Int := -((-n) / e)
theorem up_one {n e : Int} (h1 : 1 ≤ n) (h2 : n ≤ e) : up n e = 1 := by
  unfold up
  have : (-n) / e = -1 := (Int.ediv_eq_iff_of_pos (by omega)).2 (by omega)
  omega
theorem up_pos {n e : Int} (h1 : 1 ≤ n) (he : 1 ≤ e) : 1 ≤ up n e := by
  unfold up
  have : (-n) / e < 0 := Int.ediv_neg_of_neg_of_pos (by omega) (by omega)
  omega
theorem up_mono {n m e : Int} (he : 1 ≤ e) (h : n ≤ m) : up n e ≤ up m e := by
  unfold up
  have := Int.ediv_le_ediv (show 0 < e by omega) (show -m ≤ -n by omega)
  omega
/-- of one task no more than n by Every, rounded up, come in n times -/
theorem come_count {x : Tk} (h : tok x) (f s n m : Nat) : lsum (inC s (s + n)) (perTask x f m) ≤ x.1 * up n x.2.1 := by
  obtain ⟨e1, e2, d1, d2, g1, g2⟩ := h
  have key : ∀ m : Nat, ∃ c : Int, lsum (inC s (s + n)) (perTask x f m) = x.1 * c ∧ 0 ≤ c ∧ (c = 0 ∨ c ≤ min ((s : Int) + n - 1 - f) ((m - 1) * x.2.1) / x.2.1 + ((f : Int) - s) / x.2.1 + 1) := by
    intro m
    induction m with
    | zero => exact ⟨0, by simp [perTask, lsum], Int.le_refl _, .inl rfl⟩
    | succ m ih =>
      obtain ⟨c, c1, c2, c3⟩ := ih
      have et : ((x.2.1.toNat : Nat) : Int) = x.2.1 := by omega
      have em : ((m * x.2.1.toNat : Nat) : Int) = (m : Int) * x.2.1 := by rw [Int.natCast_mul, et]
      have up' : min ((s : Int) + n - 1 - f) ((m - 1 : Int) * x.2.1) / x.2.1 ≤ min ((s : Int) + n - 1 - f) (((m + 1 : Nat) - 1 : Int) * x.2.1) / x.2.1 := by
        refine Int.ediv_le_ediv (by omega) ?_
        have : (m - 1 : Int) * x.2.1 ≤ ((m + 1 : Nat) - 1 : Int) * x.2.1 := Int.mul_le_mul_of_nonneg_right (by omega) (by omega)
        omega
      simp only [perTask]
      rw [lsum_snoc, c1]
      by_cases hp : inC s (s + n) (f + m * x.2.1.toNat, f + m * x.2.1.toNat + x.2.2.toNat, x.1) = true
      · rw [if_pos hp]
        refine ⟨c + 1, by rw [Int.mul_add]; simp, by omega, .inr ?_⟩
        simp [inC] at hp
        obtain ⟨p1, p2⟩ := hp
        have p1' : (s : Int) ≤ f + (m : Int) * x.2.1 := by rw [← em]; omega
        have p2' : (f : Int) + (m : Int) * x.2.1 ≤ s + n - 1 := by rw [← em]; omega
        have q1 : min ((s : Int) + n - 1 - f) (((m + 1 : Nat) - 1 : Int) * x.2.1) = (m : Int) * x.2.1 := by
          rw [show ((m + 1 : Nat) - 1 : Int) = (m : Int) by omega]; omega
        have q2 : (m : Int) * x.2.1 / x.2.1 = m := Int.mul_ediv_cancel _ (by omega)
        have q3 : -(m : Int) ≤ ((f : Int) - s) / x.2.1 := (Int.le_ediv_iff_mul_le (by omega)).2 (by rw [Int.neg_mul]; omega)
        rw [q1, q2]
        rcases c3 with c3 | c3
        · omega
        · have q4 : min ((s : Int) + n - 1 - f) ((m - 1 : Int) * x.2.1) / x.2.1 ≤ m - 1 := by
            have a : min ((s : Int) + n - 1 - f) ((m - 1 : Int) * x.2.1) ≤ (m - 1 : Int) * x.2.1 := by omega
            have b := Int.ediv_le_ediv (show 0 < x.2.1 by omega) a
            rw [Int.mul_ediv_cancel _ (by omega)] at b
            exact b
          omega
      · rw [if_neg hp]
        refine ⟨c, by simp, c2, ?_⟩
        rcases c3 with c3 | c3
        · exact .inl c3
        · exact .inr (by omega)
  obtain ⟨c, c1, c2, c3⟩ := key m
  rw [c1]
  refine Int.mul_le_mul_of_nonneg_left ?_ (by omega)
  have hu : (-(n : Int)) / x.2.1 * x.2.1 ≤ -(n : Int) := Int.ediv_mul_le _ (by omega)
  have hu2 : -(n : Int) < ((-(n : Int)) / x.2.1 + 1) * x.2.1 := Int.lt_ediv_add_one_mul_self _ (by omega)
  have hup : 0 ≤ up n x.2.1 := by
    unfold up
    have : (-(n : Int)) / x.2.1 ≤ 0 := by
      have := Int.ediv_le_ediv (show 0 < x.2.1 by omega) (show -(n : Int) ≤ 0 by omega)
      simpa using this
    omega
  rcases c3 with c3 | c3
  · omega
  · have a : min ((s : Int) + n - 1 - f) ((m - 1 : Int) * x.2.1) / x.2.1 ≤ ((s : Int) + n - 1 - f) / x.2.1 := Int.ediv_le_ediv (by omega) (by omega)
    have b := ediv_add_le ((s : Int) + n - 1 - f) ((f : Int) - s) x.2.1 (by omega)
    rw [show (s : Int) + n - 1 - f + (f - s) = n - 1 by omega] at b
    have d : ((n : Int) - 1) / x.2.1 + 1 ≤ up n x.2.1 := by
      have : ((n : Int) - 1) / x.2.1 < up n x.2.1 := by
        refine (Int.ediv_lt_iff_lt_mul (by omega)).2 ?_
        unfold up
        rw [Int.neg_mul]
        omega
      omega
    omega
end PlayM
end Go.Proofs.Ytpnahhpkaegeeaa

/- Plain mathematics of replies and orders: what a task needs with those ahead of it; which orders are good. -/
set_option linter.unusedVariables false
namespace Go.Proofs.Ytpnahhpkaegeeaa
open SpanM SupM TaskM PlayM
namespace RankM
/-- what those ahead need within n -/
def ahead : List Tk → Int → Int
  | [], _ => 0
  | y :: r, n => up n y.2.1 * y.1 + ahead r n
theorem ahead_append (p r : List Tk) (n : Int) : ahead (p ++ r) n = ahead p n + ahead r n := by
  induction p with
  | nil => simp [ahead]
  | cons y s ih => simp only [List.cons_append, ahead, ih]; omega
theorem ahead_perm {p r : List Tk} (h : p.Perm r) (n : Int) : ahead p n = ahead r n := by
  induction h with
  | nil => rfl
  | cons x _ ih => simp only [ahead, ih]
  | swap x y l => simp only [ahead]; omega
  | trans _ _ ih1 ih2 => rw [ih1, ih2]
theorem term_nonneg {y : Tk} (h : tok y) {n : Int} (hn : 1 ≤ n) : 0 ≤ up n y.2.1 * y.1 :=
  Int.mul_nonneg (by have := up_pos hn h.1; omega) (by have := h.2.2.2.2.1; omega)
theorem ahead_nonneg {p : List Tk} (h : ∀ y ∈ p, tok y) {n : Int} (hn : 1 ≤ n) : 0 ≤ ahead p n := by
  induction p with
  | nil => simp [ahead]
  | cons y r ih =>
    have a := ih fun z hz => h z (by simp [hz])
    have b := term_nonneg (h y (by simp)) hn
    simp only [ahead]; omega
theorem ahead_sub {p r : List Tk} (h : ∀ y ∈ r, tok y) (hs : p.Sublist r) {n : Int} (hn : 1 ≤ n) : ahead p n ≤ ahead r n := by
  induction hs with
  | slnil => exact Int.le_refl _
  | cons y _ ih =>
    have a := ih fun z hz => h z (by simp [hz])
    have b := term_nonneg (h y (by simp)) hn
    simp only [ahead]; omega
  | cons_cons y _ ih =>
    have a := ih fun z hz => h z (by simp [hz])
    simp only [ahead]; omega
/-- what a task needs within n, with those ahead of it -/
def need (p : List Tk) (x : Tk) (n : Int) : Int := x.1 + ahead p n
/-- n times are enough for it -/
def Enough (S : Int → Int) (p : List Tk) (x : Tk) (n : Int) : Prop := 1 ≤ n ∧ n ≤ x.2.2 ∧ need p x n ≤ S n
/-- it has a reply -/
def Rep (S : Int → Int) (p : List Tk) (x : Tk) : Prop := ∃ n, Enough S p x n
theorem Rep.perm {S : Int → Int} {p r : List Tk} {x : Tk} (h : Rep S p x) (hp : p.Perm r) : Rep S r x := by
  obtain ⟨n, h1, h2, h3⟩ := h
  exact ⟨n, h1, h2, by unfold need at *; rw [← ahead_perm hp]; exact h3⟩
theorem Rep.sub {S : Int → Int} {p r : List Tk} {x : Tk} (h : Rep S r x) (ht : ∀ y ∈ r, tok y) (hs : p.Sublist r) : Rep S p x := by
  obtain ⟨n, h1, h2, h3⟩ := h
  have := ahead_sub ht hs h1
  exact ⟨n, h1, h2, by unfold need at *; omega⟩
/-- each has a reply behind those ahead of it, the first ones behind p -/
def Good (S : Int → Int) : List Tk → List Tk → Prop
  | _, [] => True
  | p, x :: r => Rep S p x ∧ Good S (p ++ [x]) r
theorem Good.perm {S : Int → Int} {l : List Tk} : ∀ {p q : List Tk}, Good S p l → p.Perm q → Good S q l := by
  induction l with
  | nil => intro p q _ _; trivial
  | cons x r ih => intro p q h hp; exact ⟨h.1.perm hp, ih h.2 (hp.append_right [x])⟩
/-- LEUNG, WHITEHEAD: of two beside one another the one that is due first may go first -/
theorem Good.swap {S : Int → Int} {p r : List Tk} {x y : Tk} (hx : tok x) (hy : tok y) (hp : ∀ z ∈ p, tok z) (hd : y.2.2 ≤ x.2.2) (h : Good S p (x :: y :: r)) : Good S p (y :: x :: r) := by
  obtain ⟨h1, h2, h3⟩ := h
  refine ⟨?_, ?_, ?_⟩
  · exact h2.sub (by intro z hz; simp at hz; rcases hz with hz | rfl; exact hp z hz; exact hx) (List.sublist_append_left p [x])
  · obtain ⟨n, n1, n2, n3⟩ := h2
    refine ⟨n, n1, by omega, ?_⟩
    have u1 : up n y.2.1 = 1 := up_one n1 (by have := hy.2.2.2.1; omega)
    have u2 := up_pos n1 hx.1
    have hl : 0 ≤ x.1 := by have := hx.2.2.2.2.1; omega
    have m := Int.mul_le_mul_of_nonneg_right u2 hl
    unfold need at *
    rw [ahead_append] at n3 ⊢
    simp only [ahead, u1] at n3 ⊢
    omega
  · exact h3.perm (by
      rw [List.append_assoc, List.append_assoc]
      exact List.Perm.append_left p (List.Perm.swap y x []))
theorem Good.front {S : Int → Int} {u : List Tk} : ∀ {p v : List Tk} {y : Tk}, (∀ z ∈ p, tok z) → (∀ z ∈ u, tok z ∧ y.2.2 ≤ z.2.2) → tok y → Good S p (u ++ y :: v) → Good S p (y :: (u ++ v)) := by
  induction u with
  | nil => intro p v y _ _ _ h; exact h
  | cons x r ih =>
    intro p v y hp hu hy h
    obtain ⟨h1, h2⟩ := h
    have hx := hu x (by simp)
    have h3 := ih (p := p ++ [x]) (by intro z hz; simp at hz; rcases hz with hz | rfl; exact hp z hz; exact hx.1) (fun z hz => hu z (by simp [hz])) hy h2
    exact Good.swap hx.1 hy hp hx.2 ⟨h1, h3⟩
/-- if any order is good, each order by what is due is -/
theorem Good.sorted {S : Int → Int} {m : List Tk} : ∀ {p l : List Tk}, (∀ z ∈ p, tok z) → (∀ z ∈ l, tok z) → l.Perm m → m.Pairwise (fun x y => x.2.2 ≤ y.2.2) → Good S p l → Good S p m := by
  induction m with
  | nil => intro p l _ _ _ _ _; trivial
  | cons y r ih =>
    intro p l hp hl hpm hs h
    have hy : y ∈ l := hpm.mem_iff.2 (by simp)
    obtain ⟨u, v, rfl⟩ := List.append_of_mem hy
    have hperm : (u ++ v).Perm r := by
      have : (y :: (u ++ v)).Perm (y :: r) := List.perm_middle.symm.trans hpm
      exact this.cons_inv
    obtain ⟨s1, s2⟩ := List.pairwise_cons.1 hs
    have hu : ∀ z ∈ u, tok z ∧ y.2.2 ≤ z.2.2 := fun z hz => ⟨hl z (by simp [hz]), s1 z (hperm.mem_iff.1 (by simp [hz]))⟩
    have ty := hl y (by simp)
    obtain ⟨g1, g2⟩ := Good.front hp hu ty h
    refine ⟨g1, ih (by intro z hz; simp at hz; rcases hz with hz | rfl; exact hp z hz; exact ty) (fun z hz => hl z (by simp at hz ⊢; rcases hz with hz | hz <;> simp [hz])) hperm s2 g2⟩
/-- the last of a good order has a reply behind all others -/
theorem Good.last {S : Int → Int} {l : List Tk} : ∀ {p : List Tk} {x : Tk}, Good S p (l ++ [x]) → Rep S (p ++ l) x := by
  induction l with
  | nil => intro p x h; simpa using h.1
  | cons y r ih =>
    intro p x h
    have := ih h.2
    simpa using this
/-- AUDSLEY: with one less it is good still -/
theorem Good.less {S : Int → Int} {l : List Tk} : ∀ {p q r : List Tk}, (∀ z ∈ p, tok z) → (∀ z ∈ l, tok z) → q.Sublist p → r.Sublist l → Good S p l → Good S q r := by
  induction l with
  | nil =>
    intro p q r _ _ _ hr _
    cases hr
    trivial
  | cons x l ih =>
    intro p q r hp hl hq hr h
    have hpx : ∀ z ∈ p ++ [x], tok z := by intro z hz; simp at hz; rcases hz with hz | rfl; exact hp z hz; exact hl _ (by simp)
    cases hr with
    | cons _ hr => exact ih hpx (fun z hz => hl z (by simp [hz])) (hq.trans (List.sublist_append_left p [x])) hr h.2
    | cons_cons _ hr => exact ⟨h.1.sub hp hq, ih hpx (fun z hz => hl z (by simp [hz])) (hq.append (List.Sublist.refl [x])) hr h.2⟩
theorem Good.snoc {S : Int → Int} {l : List Tk} : ∀ {p : List Tk} {x : Tk}, Good S p l → Rep S (p ++ l) x → Good S p (l ++ [x]) := by
  induction l with
  | nil => intro p x _ h; exact ⟨by simpa using h, trivial⟩
  | cons y r ih => intro p x h hr; exact ⟨h.1, ih h.2 (by simpa using hr)⟩
/-- one of several that has a reply behind all others may go last -/
theorem Good.choose {S : Int → Int} {F G o : List Tk} {x : Tk} (ht : ∀ z ∈ F, tok z) (hx : F.Perm (x :: G)) (ho : o.Perm F) (h : Good S [] o) : ∃ o', o'.Perm G ∧ Good S [] o' := by
  have hm : x ∈ o := ho.mem_iff.2 (hx.mem_iff.2 (by simp))
  obtain ⟨u, v, rfl⟩ := List.append_of_mem hm
  refine ⟨u ++ v, ?_, ?_⟩
  · have : (x :: (u ++ v)).Perm (x :: G) := List.perm_middle.symm.trans (ho.trans hx)
    exact this.cons_inv
  · exact Good.less (p := []) (by simp) (fun z hz => ht z (ho.mem_iff.1 hz)) (List.Sublist.refl _) ((List.Sublist.refl u).append (List.sublist_cons_self x v)) h
theorem Good.some_last {S : Int → Int} {F o : List Tk} (hne : F ≠ []) (ho : o.Perm F) (h : Good S [] o) : ∃ x G, F.Perm (x :: G) ∧ Rep S G x := by
  have hno : o ≠ [] := by
    intro e
    subst e
    exact hne ho.symm.eq_nil
  have e := (List.dropLast_concat_getLast hno)
  rw [← e] at h ho
  have r := Good.last h
  refine ⟨o.getLast hno, o.dropLast, ho.symm.trans (List.perm_append_comm), by simpa using r⟩
end RankM
end Go.Proofs.Ytpnahhpkaegeeaa

/- Plain mathematics of plays: whose job is whose; a reply holds; a reply is exact. -/
set_option linter.unusedVariables false
namespace Go.Proofs.Ytpnahhpkaegeeaa
open SpanM SupM TaskM RankM
namespace PlayM
def tagAll (k : Nat) : List (Tk × Nat × Nat) → List (Nat × Jb)
  | [] => []
  | y :: r => (perTask y.1 y.2.1 y.2.2).map (fun x => (k, x)) ++ tagAll (k + 1) r
theorem tag_jobs (k : Nat) (ys : List (Tk × Nat × Nat)) : (tagAll k ys).map (·.2) = allJobs ys := by
  induction ys generalizing k with
  | nil => rfl
  | cons y r ih => simp only [tagAll, allJobs, List.map_append, ih, List.map_map]; congr 1; exact List.map_id _
/-- the task of a job, by its place -/
def task (ys : List (Tk × Nat × Nat)) (i : Nat) : Nat := ((tagAll 0 ys).getD i (0, (0, 0, 0))).1
theorem job_at (ys : List (Tk × Nat × Nat)) (i : Nat) : (allJobs ys).getD i (0, 0, 0) = ((tagAll 0 ys).getD i (0, (0, 0, 0))).2 := by
  rw [← tag_jobs 0 ys]
  by_cases h : i < (tagAll 0 ys).length
  · simp [List.getD, h]
  · simp [List.getD, List.getElem?_eq_none (show (tagAll 0 ys).length ≤ i by omega)]
def csum (p s e : Nat) : List (Nat × Jb) → Int
  | [] => 0
  | x :: r => (if x.1 ≤ p ∧ inC s e x.2 = true then x.2.2.2 else 0) + csum p s e r
theorem csum_append (p s e : Nat) (l r : List (Nat × Jb)) : csum p s e (l ++ r) = csum p s e l + csum p s e r := by
  induction l with
  | nil => simp [csum]
  | cons x t ih => simp only [List.cons_append, csum, ih]; omega
theorem csum_tag {p s e k : Nat} (hk : k ≤ p) (l : List Jb) : csum p s e (l.map fun x => (k, x)) = lsum (inC s e) l := by
  induction l with
  | nil => rfl
  | cons x r ih => simp only [List.map_cons, csum, lsum, ih, hk, true_and]
theorem csum_none {p s e k : Nat} (hk : p < k) (ys : List (Tk × Nat × Nat)) : csum p s e (tagAll k ys) = 0 := by
  induction ys generalizing k with
  | nil => rfl
  | cons y r ih =>
    simp only [tagAll]
    rw [csum_append, ih (by omega)]
    have : ∀ l : List Jb, csum p s e (l.map fun x => (k, x)) = 0 := by
      intro l
      induction l with
      | nil => rfl
      | cons x t ih =>
        simp only [List.map_cons, csum, ih]
        rw [if_neg (by omega)]; omega
    rw [this]; omega
theorem csum_le {ys : List (Tk × Nat × Nat)} (h : ∀ y ∈ ys, tok y.1) {p s n k : Nat} (hk : k ≤ p + 1) : csum p s (s + n) (tagAll k ys) ≤ ahead ((ys.map (·.1)).take (p + 1 - k)) n := by
  induction ys generalizing k with
  | nil => simp [tagAll, csum, ahead]
  | cons y r ih =>
    by_cases c : k ≤ p
    · have a := ih (fun z hz => h z (by simp [hz])) (k := k + 1) (by omega)
      have b := come_count (h y (by simp)) y.2.1 s n y.2.2
      simp only [tagAll]
      rw [csum_append, csum_tag c, show p + 1 - k = (p + 1 - (k + 1)) + 1 by omega]
      simp only [List.map_cons, List.take_succ_cons, ahead]
      rw [Int.mul_comm (up n y.1.2.1)]
      omega
    · rw [csum_none (by omega), show p + 1 - k = 0 by omega]
      simp [ahead]
theorem sum_tag (ys : List (Tk × Nat × Nat)) (p s e : Nat) : sumP (comes (ofList (allJobs ys)) (task ys) p s e) (ofList (allJobs ys)).long (ofList (allJobs ys)).n = csum p s e (tagAll 0 ys) := by
  have len : (ofList (allJobs ys)).n = (tagAll 0 ys).length := by
    show (allJobs ys).length = _
    rw [← tag_jobs 0 ys]; simp
  rw [len]
  have : ∀ k, k ≤ (tagAll 0 ys).length → sumP (comes (ofList (allJobs ys)) (task ys) p s e) (ofList (allJobs ys)).long k = csum p s e ((tagAll 0 ys).take k) := by
    intro k
    induction k with
    | zero => intro _; simp [sumP, csum]
    | succ k ih =>
      intro hk
      have hs : (tagAll 0 ys).take (k + 1) = (tagAll 0 ys).take k ++ [(tagAll 0 ys).getD k (0, (0, 0, 0))] := by
        rw [List.take_succ_eq_append_getElem (by omega)]; simp [List.getD, show k < (tagAll 0 ys).length by omega]
      simp only [sumP]
      rw [ih (by omega), hs, csum_append]
      have e1 : (ofList (allJobs ys)).long k = ((tagAll 0 ys).getD k (0, (0, 0, 0))).2.2.2 := by
        show ((allJobs ys).getD k (0, 0, 0)).2.2 = _
        rw [job_at]
      have e2 : (ofList (allJobs ys)).came k = ((tagAll 0 ys).getD k (0, (0, 0, 0))).2.1 := by
        show ((allJobs ys).getD k (0, 0, 0)).1 = _
        rw [job_at]
      simp only [csum]
      rw [e1]
      by_cases c : comes (ofList (allJobs ys)) (task ys) p s e k = true
      · rw [if_pos c]
        obtain ⟨c1, c2, c3⟩ := comes_iff.1 c
        rw [e2] at c2 c3
        rw [if_pos ⟨c1, by simp [inC]; exact ⟨c2, c3⟩⟩]
        omega
      · rw [if_neg c]
        rw [if_neg]
        · omega
        · rintro ⟨c1, c2⟩
          apply c
          simp [inC] at c2
          refine comes_iff.2 ⟨c1, ?_, ?_⟩
          · rw [e2]; exact c2.1
          · rw [e2]; exact c2.2
  have h := this _ (Nat.le_refl _)
  rw [List.take_length] at h
  exact h
/-- where n times are enough for the task p, they are from every time on for all that comes, up to it -/
theorem enough_all {size : Int} {sl : List Sp} (hs : 1 ≤ size) (hg : good size (-1) sl = true) {ys : List (Tk × Nat × Nat)} (h : ∀ y ∈ ys, tok y.1) {p n : Nat} {x : Tk} (hx : (ys.map (·.1))[p]? = some x)
    (he : Enough (lst size sl) ((ys.map (·.1)).take p) x n) (s : Nat) :
    sumP (comes (ofList (allJobs ys)) (task ys) p s (s + n)) (ofList (allJobs ys)).long (ofList (allJobs ys)).n ≤ av (inS size sl) (s + n) - av (inS size sl) s := by
  obtain ⟨n1, n2, n3⟩ := he
  rw [sum_tag, av_D hs hg (show s ≤ s + n by omega)]
  have a := csum_le h (p := p) (s := s) (n := n) (k := 0) (by omega)
  rw [show p + 1 - 0 = p + 1 by omega] at a
  have hlt : p < (ys.map (·.1)).length := (List.getElem?_eq_some_iff.1 hx).1
  have hts : (ys.map (·.1)).take (p + 1) = (ys.map (·.1)).take p ++ [x] := by
    rw [List.take_succ_eq_append_getElem hlt]
    obtain ⟨_, e⟩ := List.getElem?_eq_some_iff.1 hx
    rw [e]
  have tx : tok x := by
    have : x ∈ ys.map (·.1) := List.mem_of_getElem? hx
    obtain ⟨y, hy, rfl⟩ := List.mem_map.1 this
    exact h y hy
  rw [hts, ahead_append] at a
  simp only [ahead] at a
  rw [up_one n1 (by have := tx.2.2.2.1; omega)] at a
  have c := (lst_P hs hg (show 0 ≤ (n : Int) by omega)).1 s (by omega)
  rw [show ((s + n : Nat) : Int) - s = n by omega]
  unfold need at n3
  omega
theorem per_len (x : Tk) (f m : Nat) : (perTask x f m).length = m := by
  induction m with
  | zero => rfl
  | succ m ih => simp [perTask, ih]
theorem long_pos {ys : List (Tk × Nat × Nat)} (h : ∀ y ∈ ys, tok y.1) : ∀ i, i < (ofList (allJobs ys)).n → 0 ≤ (ofList (allJobs ys)).long i := by
  have each : ∀ (x : Tk) (f m : Nat), tok x → ∀ j ∈ perTask x f m, 1 ≤ j.2.2 := by
    intro x f m hx
    induction m with
    | zero => intro j hj; simp [perTask] at hj
    | succ m ih =>
      intro j hj
      simp only [perTask, List.mem_append, List.mem_singleton] at hj
      rcases hj with hj | rfl
      · exact ih j hj
      · exact hx.2.2.2.2.1
  have all : ∀ j ∈ allJobs ys, 1 ≤ j.2.2 := by
    induction ys with
    | nil => intro j hj; simp [allJobs] at hj
    | cons y r ih =>
      intro j hj
      simp only [allJobs, List.mem_append] at hj
      rcases hj with hj | hj
      · exact each _ _ _ (h y (by simp)) j hj
      · exact ih (fun z hz => h z (by simp [hz])) j hj
  intro i hi
  have hi' : i < (allJobs ys).length := hi
  have := all ((allJobs ys).getD i (0, 0, 0)) (by simp [List.getD, hi'])
  show 0 ≤ ((allJobs ys).getD i (0, 0, 0)).2.2
  omega
/-- a reply holds -/
theorem reply_holds {size : Int} {sl : List Sp} (hs : 1 ≤ size) (hg : good size (-1) sl = true) {ys : List (Tk × Nat × Nat)} (h : ∀ y ∈ ys, tok y.1) {T : Nat} {L : Nat → Nat → Int} {c : Nat → Option Nat}
    (hr : Run (ofList (allJobs ys)) (inS size sl) T L c) (hf : Fix (ofList (allJobs ys)) (inS size sl) T L c (task ys)) {p n : Nat} {x : Tk} (hx : (ys.map (·.1))[p]? = some x)
    (he : Enough (lst size sl) ((ys.map (·.1)).take p) x n) {j : Nat} (hj : j < (ofList (allJobs ys)).n) (hp : task ys j = p) (hT : (ofList (allJobs ys)).came j + n ≤ T) : L ((ofList (allJobs ys)).came j + n) j = 0 :=
  hr.reply hf (long_pos h) (by have := he.1; omega) (fun s _ => enough_all hs hg h hx he s) hj (by omega) hT
/-- where it fits no job is late, by the earliest due -/
theorem fits_edf {size : Int} {sl : List Sp} (hs : 1 ≤ size) (hg : good size (-1) sl = true) {ys : List (Tk × Nat × Nat)} (h : ∀ y ∈ ys, tok y.1) (hft : ∀ n, 0 ≤ n → ¬ Bad size sl (ys.map (·.1)) n) {T : Nat} {L : Nat → Nat → Int} {c : Nat → Option Nat}
    (hr : Run (ofList (allJobs ys)) (inS size sl) T L c) (he : Edf (ofList (allJobs ys)) (inS size sl) T L c) {j : Nat} (hj : j < (ofList (allJobs ys)).n) (hd : (ofList (allJobs ys)).due j ≤ T) : L ((ofList (allJobs ys)).due j) j = 0 :=
  hr.edf he (long_pos h) hd (fun s hsd => fits_enough hs hg h hft hsd) hj (Nat.le_refl _)
end PlayM
end Go.Proofs.Ytpnahhpkaegeeaa

/- Plain mathematics of plays: a play of tasks, time by time, as the document tells it. -/
set_option linter.unusedVariables false
namespace Go.Proofs.Ytpnahhpkaegeeaa
open SpanM SupM TaskM
namespace PlayM
/-- tasks, when each begins to come, the set, who goes first -/
structure Pl where
  l : List Tk
  f : List Int
  size : Int
  sl : List Sp
  pol : Int
namespace Pl
def tk (P : Pl) (i : Nat) : Tk := P.l.getD i (0, 0, 0)
/-- when the job k of the task i comes, and is due -/
def cm (P : Pl) (i k : Nat) : Int := P.f.getD i 0 + (k : Int) * (P.tk i).2.1
def du (P : Pl) (i k : Nat) : Int := P.cm i k + (P.tk i).2.2
structure Ok (P : Pl) : Prop where
  tk : ∀ x ∈ P.l, tok x
  len : P.f.length = P.l.length
  f0 : ∀ x ∈ P.f, 0 ≤ x
  s1 : 1 ≤ P.size
  sg : good P.size (-1) P.sl = true
theorem Ok.at {P : Pl} (h : P.Ok) {i : Nat} (hi : i < P.l.length) : tok (P.tk i) := h.tk _ (by unfold Pl.tk; simp [List.getD, hi])
theorem Ok.first {P : Pl} (h : P.Ok) (i : Nat) : 0 ≤ P.f.getD i 0 := by
  by_cases hi : i < P.f.length
  · exact h.f0 _ (by simp [List.getD, hi])
  · simp [List.getD, List.getElem?_eq_none (show P.f.length ≤ i by omega)]
theorem Ok.come {P : Pl} (h : P.Ok) {i : Nat} (hi : i < P.l.length) (k : Nat) : (k : Int) ≤ P.cm i k ∧ 0 ≤ P.cm i k := by
  have a := h.first i
  have b := (h.at hi).1
  have c : (k : Int) * 1 ≤ (k : Int) * (P.tk i).2.1 := Int.mul_le_mul_of_nonneg_left b (by omega)
  unfold cm
  omega
theorem Ok.later {P : Pl} (h : P.Ok) {i : Nat} (hi : i < P.l.length) {k m : Nat} (hk : k < m) : P.cm i k < P.cm i m := by
  have b := (h.at hi).1
  have c : ((k : Int) + 1) * (P.tk i).2.1 ≤ (m : Int) * (P.tk i).2.1 := Int.mul_le_mul_of_nonneg_right (by omega) (by omega)
  rw [Int.add_mul] at c
  unfold cm
  omega
theorem Ok.due {P : Pl} (h : P.Ok) {i : Nat} (hi : i < P.l.length) (k : Nat) : P.cm i k < P.du i k := by
  have := (h.at hi).2.2.1
  unfold du; omega
/-- has come, and something is left of it -/
def Pn (P : Pl) (L : Nat → Nat → Int) (t i k : Nat) : Prop := i < P.l.length ∧ P.cm i k ≤ t ∧ 0 < L i k
def ky (P : Pl) (i k : Nat) : Int := if P.pol = 1 then P.du i k else 0
/-- goes ahead of it -/
def Bef (P : Pl) (i k j m : Nat) : Prop := P.ky i k < P.ky j m ∨ (P.ky i k = P.ky j m ∧ (i < j ∨ (i = j ∧ k ≤ m)))
/-- is worked at -/
def Best (P : Pl) (L : Nat → Nat → Int) (t i k : Nat) : Prop := P.Pn L t i k ∧ ∀ j m, P.Pn L t j m → P.Bef i k j m
theorem Best.one {P : Pl} {L : Nat → Nat → Int} {t i k j m : Nat} (h : P.Best L t i k) (h' : P.Best L t j m) : i = j ∧ k = m := by
  have a := h.2 j m h'.1
  have b := h'.2 i k h.1
  unfold Bef at a b
  omega
theorem min_of {α : Type} (Q : α → Prop) (g : α → Nat) (h : ∃ x, Q x) : ∃ x, Q x ∧ ∀ y, Q y → g x ≤ g y := by
  obtain ⟨x, hx⟩ := h
  have : ∀ n x, g x = n → Q x → ∃ x, Q x ∧ ∀ y, Q y → g x ≤ g y := by
    intro n
    induction n using Nat.strongRecOn with
    | ind n ih =>
      intro x hn hx
      by_cases c : ∃ y, Q y ∧ g y < n
      · obtain ⟨y, hy, hl⟩ := c
        exact ih (g y) hl y rfl hy
      · refine ⟨x, hx, fun y hy => ?_⟩
        by_cases d : g x ≤ g y
        · exact d
        · exact absurd ⟨y, hy, by omega⟩ c
  exact this (g x) x rfl hx
theorem best_ex {P : Pl} (hP : P.Ok) {L : Nat → Nat → Int} {t : Nat} (h : ∃ i k, P.Pn L t i k) : ∃ i k, P.Best L t i k := by
  have hky : ∀ i k, P.Pn L t i k → 0 ≤ P.ky i k := fun i k hp => by
    unfold ky
    split
    · have := (hP.come hp.1 k).2
      have := hP.due hp.1 k
      omega
    · omega
  obtain ⟨i0, k0, h0⟩ := h
  obtain ⟨b, b1, b2⟩ := min_of (fun b : Nat × Nat => P.Pn L t b.1 b.2) (fun b => (P.ky b.1 b.2).toNat) ⟨(i0, k0), h0⟩
  obtain ⟨c, ⟨c1, c2⟩, c3⟩ := min_of (fun c : Nat × Nat => P.Pn L t c.1 c.2 ∧ P.ky c.1 c.2 = P.ky b.1 b.2) (fun c => c.1) ⟨b, b1, rfl⟩
  obtain ⟨d, ⟨d1, d2, d3⟩, d4⟩ := min_of (fun d : Nat × Nat => P.Pn L t d.1 d.2 ∧ P.ky d.1 d.2 = P.ky b.1 b.2 ∧ d.1 = c.1) (fun d => d.2) ⟨c, c1, c2, rfl⟩
  refine ⟨d.1, d.2, d1, fun j m hp => ?_⟩
  have e1 := b2 (j, m) hp
  have e2 := hky _ _ b1
  have e3 := hky _ _ hp
  simp only at e1
  unfold Bef
  rw [d2]
  by_cases q : P.ky b.1 b.2 < P.ky j m
  · exact .inl q
  · have q1 : P.ky j m = P.ky b.1 b.2 := by omega
    have e4 := c3 (j, m) ⟨hp, q1⟩
    simp only at e4
    refine .inr ⟨q1.symm, ?_⟩
    by_cases q2 : d.1 < j
    · exact .inl q2
    · have e5 := d4 (j, m) ⟨hp, q1, by simp only; omega⟩
      simp only at e5
      exact .inr ⟨by omega, e5⟩
open Classical in
/-- which one is worked at -/
noncomputable def pick (P : Pl) (L : Nat → Nat → Int) (t : Nat) : Option (Nat × Nat) :=
  if h : ∃ b : Nat × Nat, P.Best L t b.1 b.2 then some (Classical.choose h) else none
theorem pick_some {P : Pl} {L : Nat → Nat → Int} {t i k : Nat} : P.pick L t = some (i, k) ↔ P.Best L t i k := by
  unfold pick
  constructor
  · intro h
    split at h
    · rename_i hb
      have := Classical.choose_spec hb
      simp only [Option.some.injEq] at h
      rw [h] at this
      exact this
    · simp at h
  · intro h
    have hb : ∃ b : Nat × Nat, P.Best L t b.1 b.2 := ⟨(i, k), h⟩
    rw [dif_pos hb]
    obtain ⟨e1, e2⟩ := (Classical.choose_spec hb).one h
    rw [Option.some.injEq]
    exact Prod.ext e1 e2
theorem pick_none {P : Pl} (hP : P.Ok) {L : Nat → Nat → Int} {t : Nat} : P.pick L t = none ↔ ∀ i k, ¬ P.Pn L t i k := by
  constructor
  · intro h i k hp
    obtain ⟨j, m, hb⟩ := best_ex hP ⟨i, k, hp⟩
    rw [pick_some.2 hb] at h
    simp at h
  · intro h
    cases hc : P.pick L t with
    | none => rfl
    | some b => exact absurd ((pick_some (i := b.1) (k := b.2)).1 hc).1 (h _ _)
/-- is it a time of the set? -/
def on (P : Pl) (t : Nat) : Bool := inS P.size P.sl t
def less (L : Nat → Nat → Int) (b : Nat × Nat) : Nat → Nat → Int := fun i k => if i = b.1 ∧ k = b.2 then L i k - 1 else L i k
/-- task, job, came, at -/
abbrev Dn := Int × Int × Int × Int
noncomputable def ch (P : Pl) (L : Nat → Nat → Int) (t : Nat) : Option (Nat × Nat) := if P.on t = true then P.pick L t else none
noncomputable def next (P : Pl) (L : Nat → Nat → Int) (t : Nat) : Nat → Nat → Int := match P.ch L t with | none => L | some b => less L b
noncomputable def out1 (P : Pl) (L : Nat → Nat → Int) (t : Nat) : List Dn := match P.ch L t with | none => [] | some b => if L b.1 b.2 = 1 then [((b.1 : Int), (b.2 : Int), P.cm b.1 b.2, (t : Int) + 1)] else []
noncomputable def idle1 (P : Pl) (L : Nat → Nat → Int) (t : Nat) : Int := if P.on t = true ∧ P.pick L t = none then 1 else 0
/-- what is left, what is done, how often nothing was to be done, ahead of t -/
noncomputable def Lf (P : Pl) : Nat → Nat → Nat → Int
  | 0 => fun i _ => (P.tk i).1
  | t + 1 => P.next (P.Lf t) t
noncomputable def outs (P : Pl) : Nat → List Dn
  | 0 => []
  | t + 1 => P.outs t ++ P.out1 (P.Lf t) t
noncomputable def idles (P : Pl) : Nat → Int
  | 0 => 0
  | t + 1 => P.idles t + P.idle1 (P.Lf t) t
/-- one time: nothing happens; nothing is to be done; one is worked at -/
theorem cases1 {P : Pl} (hP : P.Ok) (L : Nat → Nat → Int) (t : Nat) :
    (P.on t = false ∧ P.ch L t = none ∧ P.next L t = L ∧ P.out1 L t = [] ∧ P.idle1 L t = 0) ∨
    (P.on t = true ∧ P.ch L t = none ∧ (∀ i k, ¬ P.Pn L t i k) ∧ P.next L t = L ∧ P.out1 L t = [] ∧ P.idle1 L t = 1) ∨
    ∃ i k, P.on t = true ∧ P.ch L t = some (i, k) ∧ P.Best L t i k ∧ P.next L t = less L (i, k) ∧ P.out1 L t = (if L i k = 1 then [((i : Int), (k : Int), P.cm i k, (t : Int) + 1)] else []) ∧ P.idle1 L t = 0 := by
  cases ho : P.on t with
  | false =>
    have e : P.ch L t = none := by unfold ch; rw [ho]; simp
    exact .inl ⟨rfl, e, by unfold next; rw [e], by unfold out1; rw [e], by unfold idle1; rw [ho]; simp⟩
  | true =>
    have e : P.ch L t = P.pick L t := by unfold ch; rw [ho]; simp
    cases hc : P.pick L t with
    | none =>
      rw [hc] at e
      exact .inr (.inl ⟨rfl, e, (pick_none hP).1 hc, by unfold next; rw [e], by unfold out1; rw [e], by unfold idle1; rw [if_pos ⟨ho, hc⟩]⟩)
    | some b =>
      rw [hc] at e
      exact .inr (.inr ⟨b.1, b.2, rfl, e, pick_some.1 hc, by unfold next; rw [e], by unfold out1; rw [e], by unfold idle1; rw [if_neg (by rw [hc]; simp)]⟩)
theorem less_at (L : Nat → Nat → Int) (i k : Nat) : less L (i, k) i k = L i k - 1 := by simp [less]
theorem less_other (L : Nat → Nat → Int) {i k j m : Nat} (h : ¬ (j = i ∧ m = k)) : less L (i, k) j m = L j m := by simp [less, h]
theorem Lf_down {P : Pl} (hP : P.Ok) (t i k : Nat) : P.Lf (t + 1) i k ≤ P.Lf t i k := by
  show P.next (P.Lf t) t i k ≤ _
  rcases cases1 hP (P.Lf t) t with ⟨_, _, e, _⟩ | ⟨_, _, _, e, _⟩ | ⟨j, m, _, _, _, e, _⟩
  · rw [e]; exact Int.le_refl _
  · rw [e]; exact Int.le_refl _
  · rw [e]
    by_cases c : i = j ∧ k = m
    · rw [c.1, c.2, less_at]; omega
    · rw [less_other _ c]; exact Int.le_refl _
theorem Lf_anti {P : Pl} (hP : P.Ok) {s t : Nat} (h : s ≤ t) (i k : Nat) : P.Lf t i k ≤ P.Lf s i k := by
  obtain ⟨n, rfl⟩ : ∃ n, t = s + n := ⟨t - s, by omega⟩
  clear h
  induction n with
  | zero => exact Int.le_refl _
  | succ n ih =>
    have := Lf_down hP (s + n) i k
    rw [show s + (n + 1) = s + n + 1 by omega]
    omega
theorem Lf_nonneg {P : Pl} (hP : P.Ok) (t : Nat) {i : Nat} (hi : i < P.l.length) (k : Nat) : 0 ≤ P.Lf t i k := by
  induction t with
  | zero => show 0 ≤ (P.tk i).1; have := (hP.at hi).2.2.2.2.1; omega
  | succ t ih =>
    show 0 ≤ P.next (P.Lf t) t i k
    rcases cases1 hP (P.Lf t) t with ⟨_, _, e, _⟩ | ⟨_, _, _, e, _⟩ | ⟨j, m, _, _, hb, e, _⟩
    · rw [e]; exact ih
    · rw [e]; exact ih
    · rw [e]
      by_cases c : i = j ∧ k = m
      · rw [c.1, c.2, less_at]; have := hb.1.2.2; omega
      · rw [less_other _ c]; exact ih
/-- what is done is told -/
theorem mem_outs {P : Pl} (hP : P.Ok) (T : Nat) (d : Dn) : d ∈ P.outs T ↔ ∃ t i k, t < T ∧ P.on t = true ∧ P.Best (P.Lf t) t i k ∧ P.Lf t i k = 1 ∧ d = ((i : Int), (k : Int), P.cm i k, (t : Int) + 1) := by
  induction T with
  | zero => simp [outs]
  | succ T ih =>
    show d ∈ P.outs T ++ P.out1 (P.Lf T) T ↔ _
    rw [List.mem_append, ih]
    constructor
    · rintro (⟨t, i, k, h1, h2⟩ | h)
      · exact ⟨t, i, k, by omega, h2⟩
      · rcases cases1 hP (P.Lf T) T with ⟨_, _, _, e, _⟩ | ⟨_, _, _, _, e, _⟩ | ⟨i, k, ho, _, hb, _, e, _⟩
        · rw [e] at h; simp at h
        · rw [e] at h; simp at h
        · rw [e] at h
          split at h
          · simp only [List.mem_singleton] at h
            exact ⟨T, i, k, by omega, ho, hb, ‹_›, h⟩
          · simp at h
    · rintro ⟨t, i, k, h1, h2, h3, h4, h5⟩
      by_cases c : t < T
      · exact .inl ⟨t, i, k, c, h2, h3, h4, h5⟩
      · obtain rfl : t = T := by omega
        right
        rcases cases1 hP (P.Lf t) t with ⟨ho, _⟩ | ⟨_, _, hn, _⟩ | ⟨j, m, _, _, hb, _, e, _⟩
        · rw [ho] at h2; simp at h2
        · exact absurd h3.1 (hn _ _)
        · obtain ⟨rfl, rfl⟩ := hb.one h3
          rw [e, if_pos h4, h5]; simp
theorem zero_iff {P : Pl} (hP : P.Ok) (T : Nat) {i : Nat} (hi : i < P.l.length) (k : Nat) : P.Lf T i k = 0 ↔ ∃ t, t < T ∧ P.on t = true ∧ P.Best (P.Lf t) t i k ∧ P.Lf t i k = 1 := by
  induction T with
  | zero =>
    constructor
    · intro h
      have h' : (P.tk i).1 = 0 := h
      have := (hP.at hi).2.2.2.2.1
      omega
    · rintro ⟨t, h, _⟩; omega
  | succ T ih =>
    have nn := Lf_nonneg hP T hi k
    constructor
    · intro h
      by_cases c : P.Lf T i k = 0
      · obtain ⟨t, h1, h2⟩ := ih.1 c
        exact ⟨t, by omega, h2⟩
      · have h' : P.next (P.Lf T) T i k = 0 := h
        rcases cases1 hP (P.Lf T) T with ⟨_, _, e, _⟩ | ⟨_, _, _, e, _⟩ | ⟨j, m, ho, _, hb, e, _⟩
        · rw [e] at h'; exact absurd h' c
        · rw [e] at h'; exact absurd h' c
        · rw [e] at h'
          by_cases d : i = j ∧ k = m
          · obtain ⟨rfl, rfl⟩ := d
            rw [less_at] at h'
            exact ⟨T, by omega, ho, hb, by omega⟩
          · rw [less_other _ d] at h'; exact absurd h' c
    · rintro ⟨t, h1, h2, h3, h4⟩
      by_cases c : t < T
      · have := ih.2 ⟨t, c, h2, h3, h4⟩
        have a := Lf_down hP T i k
        have b := Lf_nonneg hP (T + 1) hi k
        omega
      · obtain rfl : t = T := by omega
        show P.next (P.Lf t) t i k = 0
        rcases cases1 hP (P.Lf t) t with ⟨ho, _⟩ | ⟨_, _, hn, _⟩ | ⟨j, m, _, _, hb, e, _⟩
        · rw [ho] at h2; simp at h2
        · exact absurd h3.1 (hn _ _)
        · obtain ⟨rfl, rfl⟩ := hb.one h3
          rw [e, less_at]; omega
/-- in time -/
theorem intime_iff {P : Pl} (hP : P.Ok) {T : Nat} {i : Nat} (hi : i < P.l.length) {k : Nat} (hd : P.du i k ≤ T) : (∃ d ∈ P.outs T, d.1 = (i : Int) ∧ d.2.1 = (k : Int) ∧ d.2.2.2 ≤ P.du i k) ↔ P.Lf (P.du i k).toNat i k = 0 := by
  have h0 : 0 ≤ P.du i k := by have := (hP.come hi k).2; have := hP.due hi k; omega
  rw [zero_iff hP _ hi]
  constructor
  · rintro ⟨d, hm, e1, e2, e3⟩
    obtain ⟨t, j, m, h1, h2, h3, h4, rfl⟩ := (mem_outs hP T d).1 hm
    simp only at e1 e2 e3
    obtain rfl : j = i := by omega
    obtain rfl : m = k := by omega
    exact ⟨t, by omega, h2, h3, h4⟩
  · rintro ⟨t, h1, h2, h3, h4⟩
    exact ⟨_, (mem_outs hP T _).2 ⟨t, i, k, by omega, h2, h3, h4, rfl⟩, rfl, rfl, by simp only; omega⟩
/-! what was done stays -/
theorem outs_more (P : Pl) {T U : Nat} (h : T ≤ U) : ∃ r, P.outs U = P.outs T ++ r := by
  obtain ⟨n, rfl⟩ : ∃ n, U = T + n := ⟨U - T, by omega⟩
  clear h
  induction n with
  | zero => exact ⟨[], by simp⟩
  | succ n ih =>
    obtain ⟨r, e⟩ := ih
    refine ⟨r ++ P.out1 (P.Lf (T + n)) (T + n), ?_⟩
    rw [show T + (n + 1) = T + n + 1 by omega]
    show P.outs (T + n) ++ _ = _
    rw [e]; simp
theorem idles_more (P : Pl) {T U : Nat} (h : T ≤ U) : P.idles T ≤ P.idles U := by
  obtain ⟨n, rfl⟩ : ∃ n, U = T + n := ⟨U - T, by omega⟩
  clear h
  induction n with
  | zero => exact Int.le_refl _
  | succ n ih =>
    rw [show T + (n + 1) = T + n + 1 by omega]
    show _ ≤ P.idles (T + n) + P.idle1 (P.Lf (T + n)) (T + n)
    have : 0 ≤ P.idle1 (P.Lf (T + n)) (T + n) := by unfold idle1; split <;> omega
    omega
end Pl
end PlayM
end Go.Proofs.Ytpnahhpkaegeeaa

/- Plain mathematics of plays: who is late. -/
set_option linter.unusedVariables false
namespace Go.Proofs.Ytpnahhpkaegeeaa
open SpanM SupM TaskM
namespace PlayM
theorem per_get (x : Tk) (f : Nat) : ∀ (m k : Nat), k < m → (perTask x f m).getD k (0, 0, 0) = (f + k * x.2.1.toNat, f + k * x.2.1.toNat + x.2.2.toNat, x.1) := by
  intro m
  induction m with
  | zero => intro k hk; omega
  | succ m ih =>
    intro k hk
    simp only [perTask]
    by_cases c : k < m
    · have := ih k c
      rw [List.getD, List.getElem?_append_left (by rw [per_len]; exact c)]
      exact this
    · obtain rfl : k = m := by omega
      rw [List.getD, List.getElem?_append_right (by rw [per_len]; exact Nat.le_refl _), per_len]
      simp
theorem all_len (M : Nat) : ∀ ys : List (Tk × Nat × Nat), (∀ y ∈ ys, y.2.2 = M) → (allJobs ys).length = ys.length * M := by
  intro ys
  induction ys with
  | nil => intro _; simp [allJobs]
  | cons y r ih =>
    intro h
    simp only [allJobs, List.length_append, per_len, List.length_cons]
    rw [ih fun z hz => h z (by simp [hz]), h y (by simp), Nat.add_mul]; omega
theorem all_get (M : Nat) : ∀ (ys : List (Tk × Nat × Nat)), (∀ y ∈ ys, y.2.2 = M) → ∀ (i k : Nat) (hi : i < ys.length), k < M → (allJobs ys).getD (i * M + k) (0, 0, 0) = ((ys[i]).2.1 + k * (ys[i]).1.2.1.toNat, (ys[i]).2.1 + k * (ys[i]).1.2.1.toNat + (ys[i]).1.2.2.toNat, (ys[i]).1.1) := by
  intro ys
  induction ys with
  | nil => intro _ i k hi; simp at hi
  | cons y r ih =>
    intro h i k hi hk
    have hy := h y (by simp)
    simp only [allJobs]
    cases i with
    | zero =>
      rw [List.getD, List.getElem?_append_left (by rw [per_len, hy]; omega)]
      have := per_get y.1 y.2.1 y.2.2 k (by omega)
      simpa [List.getD] using this
    | succ i =>
      rw [List.getD, List.getElem?_append_right (by rw [per_len, hy, Nat.add_mul]; omega), per_len, hy, show (i + 1) * M + k - M = i * M + k by rw [Nat.add_mul]; omega]
      exact ih (fun z hz => h z (by simp [hz])) i k (by simpa using hi) hk
theorem all_exact {ys : List (Tk × Nat × Nat)} {at' d : Nat} (hd : at' ≤ d) (h : ∀ y ∈ ys, tok y.1 ∧ y.2.1 = at' ∧ jobs y.1 ((d : Int) - at') ≤ y.2.2) : lsum (inJ at' d) (allJobs ys) = dem (ys.map (·.1)) ((d : Int) - at') := by
  induction ys with
  | nil => simp [allJobs, lsum, dem]
  | cons y r ih =>
    obtain ⟨h1, h2, h3⟩ := h y (by simp)
    have a := ih fun z hz => h z (by simp [hz])
    have b := per_exact h1 at' d y.2.2 hd h3
    simp only [allJobs, List.map_cons, dem]
    rw [lsum_append, a, h2, b]
namespace Pl
/-- the tasks with M jobs each -/
def ys (P : Pl) (M : Nat) : List (Tk × Nat × Nat) := (List.range P.l.length).map fun i => (P.tk i, (P.f.getD i 0).toNat, M)
theorem ys_tk (P : Pl) (M : Nat) : (P.ys M).map (·.1) = P.l := by
  apply List.ext_getElem
  · simp [ys]
  · intro i h1 h2
    simp [ys, tk, List.getD, h2]
theorem ys_M (P : Pl) (M : Nat) : ∀ y ∈ P.ys M, y.2.2 = M := by
  intro y hy
  simp only [ys, List.mem_map] at hy
  obtain ⟨i, _, rfl⟩ := hy
  rfl
theorem ys_ok {P : Pl} (hP : P.Ok) (M : Nat) : ∀ y ∈ P.ys M, tok y.1 := by
  intro y hy
  simp only [ys, List.mem_map, List.mem_range] at hy
  obtain ⟨i, hi, rfl⟩ := hy
  exact hP.at hi
noncomputable def J (P : Pl) (M : Nat) : Jobs := ofList (allJobs (P.ys M))
theorem J_n (P : Pl) (M : Nat) : (P.J M).n = P.l.length * M := by
  show (allJobs (P.ys M)).length = _
  rw [all_len M _ (P.ys_M M)]; simp [ys]
theorem J_at {P : Pl} (hP : P.Ok) {M i k : Nat} (hi : i < P.l.length) (hk : k < M) : (((P.J M).came (i * M + k) : Nat) : Int) = P.cm i k ∧ (((P.J M).due (i * M + k) : Nat) : Int) = P.du i k ∧ (P.J M).long (i * M + k) = (P.tk i).1 := by
  have g := all_get M (P.ys M) (P.ys_M M) i k (by simp [ys, hi]) hk
  have e : (P.ys M)[i]'(by simp [ys, hi]) = (P.tk i, (P.f.getD i 0).toNat, M) := by simp [ys]
  rw [e] at g
  simp only at g
  obtain ⟨e1, e2, d1, d2, _⟩ := hP.at hi
  have f0 := hP.first i
  have em : ((k * (P.tk i).2.1.toNat : Nat) : Int) = (k : Int) * (P.tk i).2.1 := by rw [Int.natCast_mul]; congr 1; omega
  have c : (P.J M).came (i * M + k) = (P.f.getD i 0).toNat + k * (P.tk i).2.1.toNat := by
    show ((allJobs (P.ys M)).getD (i * M + k) (0, 0, 0)).1 = _
    rw [g]
  have d : (P.J M).due (i * M + k) = (P.f.getD i 0).toNat + k * (P.tk i).2.1.toNat + (P.tk i).2.2.toNat := by
    show ((allJobs (P.ys M)).getD (i * M + k) (0, 0, 0)).2.1 = _
    rw [g]
  refine ⟨?_, ?_, ?_⟩
  · rw [c]; unfold cm; omega
  · rw [d]; unfold du cm; omega
  · show ((allJobs (P.ys M)).getD (i * M + k) (0, 0, 0)).2.2 = _
    rw [g]
theorem split {M idx n : Nat} (hM : 0 < M) (h : idx < n * M) : idx / M < n ∧ idx % M < M ∧ idx = idx / M * M + idx % M := by
  refine ⟨Nat.div_lt_of_lt_mul (by rw [Nat.mul_comm]; exact h), Nat.mod_lt _ hM, ?_⟩
  have := Nat.div_add_mod idx M
  rw [Nat.mul_comm] at this
  omega
theorem join {M i k : Nat} (hk : k < M) : (i * M + k) / M = i ∧ (i * M + k) % M = k := by
  have hM : 0 < M := by omega
  constructor
  · rw [Nat.mul_comm, Nat.mul_add_div hM, Nat.div_eq_of_lt hk]; omega
  · rw [Nat.mul_comm, Nat.mul_add_mod, Nat.mod_eq_of_lt hk]
noncomputable def LL (P : Pl) (M : Nat) (t idx : Nat) : Int := P.Lf t (idx / M) (idx % M)
noncomputable def cc (P : Pl) (M : Nat) (t : Nat) : Option Nat := (P.ch (P.Lf t) t).map fun b => b.1 * M + b.2
theorem pend_iff {P : Pl} (hP : P.Ok) {M t idx : Nat} (hM : 0 < M) : Pend (P.J M) (P.LL M t) t idx ↔ idx < P.l.length * M ∧ P.Pn (P.Lf t) t (idx / M) (idx % M) := by
  unfold Pend
  rw [J_n]
  constructor
  · rintro ⟨h1, h2, h3⟩
    obtain ⟨s1, s2, s3⟩ := split hM h1
    have := (J_at hP s1 s2).1
    rw [← s3] at this
    exact ⟨h1, s1, by omega, h3⟩
  · rintro ⟨h1, h2, h3, h4⟩
    obtain ⟨s1, s2, s3⟩ := split hM h1
    have := (J_at hP s1 s2).1
    rw [← s3] at this
    exact ⟨h1, by omega, h4⟩
theorem best_lt {P : Pl} (hP : P.Ok) {M T t i k : Nat} (hT : T ≤ M) (ht : t < T) (h : P.Best (P.Lf t) t i k) : k < M ∧ i * M + k < P.l.length * M := by
  have a := (hP.come h.1.1 k).1
  have b := h.1.2.1
  have hk : k < M := by omega
  refine ⟨hk, ?_⟩
  have : (i + 1) * M ≤ P.l.length * M := Nat.mul_le_mul_right _ h.1.1
  rw [Nat.add_mul] at this
  omega
theorem run {P : Pl} (hP : P.Ok) {M T : Nat} (hM : 0 < M) (hT : T ≤ M) : Run (P.J M) (inS P.size P.sl) T (P.LL M) (P.cc M) where
  start := fun idx h => by
    rw [J_n] at h
    obtain ⟨s1, s2, s3⟩ := split hM h
    have := (J_at hP s1 s2).2.2
    rw [← s3] at this
    rw [this]; rfl
  off := fun t ht ha => by
    rcases cases1 hP (P.Lf t) t with ⟨_, _, e, _⟩ | ⟨ho, _⟩ | ⟨_, _, ho, _⟩
    · funext idx
      show P.next (P.Lf t) t _ _ = _
      rw [e]; rfl
    · have : P.on t = false := ha
      rw [this] at ho; simp at ho
    · have : P.on t = false := ha
      rw [this] at ho; simp at ho
  idle := fun t ht ha hc => by
    rcases cases1 hP (P.Lf t) t with ⟨ho, _⟩ | ⟨_, _, hn, e, _⟩ | ⟨i, k, _, h, _⟩
    · have : P.on t = true := ha
      rw [this] at ho; simp at ho
    · refine ⟨?_, fun idx hp => hn _ _ ((pend_iff hP hM).1 hp).2⟩
      funext idx
      show P.next (P.Lf t) t _ _ = _
      rw [e]; rfl
    · unfold cc at hc; rw [h] at hc; simp at hc
  work := fun t b ht ha hc => by
    rcases cases1 hP (P.Lf t) t with ⟨ho, _⟩ | ⟨_, h, _⟩ | ⟨i, k, _, h, hb, e, _⟩
    · have : P.on t = true := ha
      rw [this] at ho; simp at ho
    · unfold cc at hc; rw [h] at hc; simp at hc
    · unfold cc at hc
      rw [h] at hc
      simp only [Option.map_some, Option.some.injEq] at hc
      subst hc
      obtain ⟨hk, hlt⟩ := best_lt hP hT ht hb
      obtain ⟨j1, j2⟩ := join (i := i) hk
      refine ⟨(pend_iff hP hM).2 ⟨hlt, by rw [j1, j2]; exact hb.1⟩, ?_, fun idx hne => ?_⟩
      · show P.next (P.Lf t) t _ _ = P.Lf t _ _ - 1
        rw [e, j1, j2, less_at]
      · show P.next (P.Lf t) t _ _ = P.Lf t _ _
        rw [e, less_other]
        rintro ⟨q1, q2⟩
        apply hne
        have := Nat.div_add_mod idx M
        rw [q1, q2, Nat.mul_comm] at this
        omega
theorem run_edf {P : Pl} (hP : P.Ok) (hp : P.pol = 1) {M T : Nat} (hM : 0 < M) (hT : T ≤ M) : Edf (P.J M) (inS P.size P.sl) T (P.LL M) (P.cc M) := by
  intro t b ht ha hc idx hpe
  rcases cases1 hP (P.Lf t) t with ⟨ho, _⟩ | ⟨_, h, _⟩ | ⟨i, k, _, h, hb, _⟩
  · have : P.on t = true := ha
    rw [this] at ho; simp at ho
  · unfold cc at hc; rw [h] at hc; simp at hc
  · unfold cc at hc
    rw [h] at hc
    simp only [Option.map_some, Option.some.injEq] at hc
    subst hc
    obtain ⟨hk, hlt⟩ := best_lt hP hT ht hb
    obtain ⟨q1, q2⟩ := (pend_iff hP hM).1 hpe
    obtain ⟨s1, s2, s3⟩ := split hM q1
    have d1 := (J_at hP hb.1.1 hk).2.1
    have d2 := (J_at hP s1 s2).2.1
    rw [← s3] at d2
    have := hb.2 _ _ q2
    unfold Bef ky at this
    rw [if_pos hp, if_pos hp] at this
    omega
theorem run_fix {P : Pl} (hP : P.Ok) (hp : P.pol ≠ 1) {M T : Nat} (hM : 0 < M) (hT : T ≤ M) : Fix (P.J M) (inS P.size P.sl) T (P.LL M) (P.cc M) (fun idx => idx / M) := by
  intro t b ht ha hc idx hpe
  rcases cases1 hP (P.Lf t) t with ⟨ho, _⟩ | ⟨_, h, _⟩ | ⟨i, k, _, h, hb, _⟩
  · have : P.on t = true := ha
    rw [this] at ho; simp at ho
  · unfold cc at hc; rw [h] at hc; simp at hc
  · unfold cc at hc
    rw [h] at hc
    simp only [Option.map_some, Option.some.injEq] at hc
    subst hc
    obtain ⟨hk, hlt⟩ := best_lt hP hT ht hb
    obtain ⟨q1, q2⟩ := (pend_iff hP hM).1 hpe
    have := hb.2 _ _ q2
    unfold Bef ky at this
    rw [if_neg hp, if_neg hp] at this
    simp only
    rw [(join (i := i) hk).1]
    omega
theorem due_lt {P : Pl} (hP : P.Ok) {i k T : Nat} (hi : i < P.l.length) (hd : P.du i k ≤ T) : k < T + 1 ∧ i * (T + 1) + k < P.l.length * (T + 1) ∧ (P.J (T + 1)).due (i * (T + 1) + k) = (P.du i k).toNat ∧ P.LL (T + 1) (P.du i k).toNat (i * (T + 1) + k) = P.Lf (P.du i k).toNat i k := by
  have a := (hP.come hi k).1
  have b := hP.due hi k
  have hk : k < T + 1 := by omega
  have c : (i + 1) * (T + 1) ≤ P.l.length * (T + 1) := Nat.mul_le_mul_right _ hi
  rw [Nat.add_mul] at c
  refine ⟨hk, by omega, ?_, ?_⟩
  · have := (J_at hP hi hk).2.1
    omega
  · unfold LL
    rw [(join (i := i) hk).1, (join (i := i) hk).2]
/-- BARUAH: where it fits no job is late -/
theorem fits_late {P : Pl} (hP : P.Ok) (hp : P.pol = 1) (hf : ∀ n, 0 ≤ n → ¬ Bad P.size P.sl P.l n) {i k T : Nat} (hi : i < P.l.length) (hd : P.du i k ≤ T) : P.Lf (P.du i k).toNat i k = 0 := by
  obtain ⟨h1, h2, h3, h4⟩ := due_lt hP hi hd
  have r := run hP (M := T + 1) (T := T) (by omega) (by omega)
  have e := run_edf hP hp (M := T + 1) (T := T) (by omega) (by omega)
  have := fits_edf (T := T) hP.s1 hP.sg (ys_ok hP (T + 1)) (by rw [ys_tk]; exact hf) r e (j := i * (T + 1) + k) (by show _ < (P.J (T + 1)).n; rw [J_n]; exact h2) (by show (P.J (T + 1)).due _ ≤ T; rw [h3]; omega)
  have e2 : P.LL (T + 1) ((P.J (T + 1)).due (i * (T + 1) + k)) (i * (T + 1) + k) = 0 := this
  rw [h3, h4] at e2
  exact e2
/-- DERTOUZOS: what another order keeps is kept -/
theorem best_late {P P' : Pl} (hP : P.Ok) (hp : P.pol = 1) (h' : P' = { P with pol := P'.pol }) {T : Nat} (hd : ∀ i k, i < P.l.length → P.du i k ≤ T → P'.Lf (P.du i k).toNat i k = 0) {i k : Nat} (hi : i < P.l.length) (hdu : P.du i k ≤ T) : P.Lf (P.du i k).toNat i k = 0 := by
  have hP' : P'.Ok := by rw [h']; exact ⟨hP.tk, hP.len, hP.f0, hP.s1, hP.sg⟩
  have eJ : P'.J (T + 1) = P.J (T + 1) := by rw [h']; rfl
  have es : inS P'.size P'.sl = inS P.size P.sl := by rw [h']
  have r := run hP (M := T + 1) (T := T) (by omega) (by omega)
  have e := run_edf hP hp (M := T + 1) (T := T) (by omega) (by omega)
  have r' := run hP' (M := T + 1) (T := T) (by omega) (by omega)
  rw [eJ, es] at r'
  obtain ⟨h1, h2, h3, h4⟩ := due_lt hP hi hdu
  have := r.best e r' (long_pos (ys_ok hP (T + 1))) (fun idx hn hdi => by
    rw [J_n] at hn
    obtain ⟨s1, s2, s3⟩ := split (by omega) hn
    have d2 := (J_at hP s1 s2).2.1
    rw [← s3] at d2
    have := hd _ _ s1 (by rw [← d2]; omega)
    show P'.Lf _ _ _ = 0
    rw [show (P.J (T + 1)).due idx = (P.du (idx / (T + 1)) (idx % (T + 1))).toNat by omega]
    exact this) (j := i * (T + 1) + k) (by rw [J_n]; exact h2) (by rw [h3]; omega)
  rw [h3, h4] at this
  exact this
/-- where there is too little from some time on, some job is late, if all come then -/
theorem misses_late {P : Pl} (hP : P.Ok) {at' by' : Nat} (ha : ∀ x ∈ P.f, x = (at' : Int)) (hb : D P.size P.sl by' at' < dem P.l by') : ∃ i k, i < P.l.length ∧ P.cm i k < ((at' + by' : Nat) : Int) ∧ P.du i k ≤ ((at' + by' : Nat) : Int) ∧ 0 < P.Lf (P.du i k).toNat i k := by
  have r := run hP (M := at' + by' + 1) (T := at' + by') (by omega) (by omega)
  have hcast : ((at' + by' : Nat) : Int) - (at' : Nat) = (by' : Int) := by omega
  have e1 : lsum (inJ at' (at' + by')) (allJobs (P.ys (at' + by' + 1))) = dem P.l by' := by
    have := all_exact (ys := P.ys (at' + by' + 1)) (at' := at') (d := at' + by') (by omega) (fun y hy => by
      simp only [ys, List.mem_map, List.mem_range] at hy
      obtain ⟨i, hi, rfl⟩ := hy
      have ok := hP.at hi
      refine ⟨ok, ?_, ?_⟩
      · simp only
        rw [ha (P.f.getD i 0) (by have := hP.len; simp [List.getD, show i < P.f.length by omega])]; omega
      · simp only
        rw [hcast]
        have a := jobs_most ok (show (0 : Int) ≤ by' by omega)
        have b := Int.ediv_le_self (a := (by' : Int)) (P.tk i).2.1 (by omega)
        omega)
    rw [ys_tk, hcast] at this
    exact this
  have e2 := sum_list (allJobs (P.ys (at' + by' + 1))) at' (at' + by')
  have e3 := av_D hP.s1 hP.sg (show at' ≤ at' + by' by omega)
  rw [hcast] at e3
  obtain ⟨idx, h1, h2, h3, h4⟩ := r.misses (s := at') (d := at' + by') (by omega) (Nat.le_refl _) (by
    show _ < sumP (within (ofList _) _ _) (ofList _).long (ofList _).n
    rw [e2, e1, e3]; exact hb)
  rw [J_n] at h1
  obtain ⟨s1, s2, s3⟩ := split (by omega) h1
  have d1 := (J_at hP s1 s2).1
  have d2 := (J_at hP s1 s2).2.1
  rw [← s3] at d1 d2
  have dd := hP.due s1 (idx % (at' + by' + 1))
  refine ⟨idx / (at' + by' + 1), idx % (at' + by' + 1), s1, by omega, by omega, ?_⟩
  rw [show (P.du (idx / (at' + by' + 1)) (idx % (at' + by' + 1))).toNat = (P.J (at' + by' + 1)).due idx by omega]
  exact h4
/-- where the least is -/
theorem least_at {size n : Int} {sl : List Sp} (hs : 1 ≤ size) (hg : good size (-1) sl = true) (hn : 0 ≤ n) : lst size sl n = D size sl n 0 ∨ ∃ x ∈ sl, lst size sl n = D size sl n x.2 := by
  unfold lst
  exact (lmin_le (fun x => D size sl n x.2) (D size sl n 0) sl).2.2
/-- how many jobs of a task come below T -/
def cnt (P : Pl) (i : Nat) (T : Int) : Nat := ((T - P.f.getD i 0 + (P.tk i).2.1 - 1) / (P.tk i).2.1).toNat
theorem cnt_iff {P : Pl} (hP : P.Ok) {i : Nat} (hi : i < P.l.length) (T : Int) (k : Nat) : k < P.cnt i T ↔ P.cm i k < T := by
  have e1 := (hP.at hi).1
  unfold cnt cm
  constructor
  · intro h
    have h' : (k : Int) + 1 ≤ (T - P.f.getD i 0 + (P.tk i).2.1 - 1) / (P.tk i).2.1 := by omega
    have := (Int.le_ediv_iff_mul_le (by omega)).1 h'
    rw [Int.add_mul] at this
    omega
  · intro h
    have h' : (k : Int) + 1 ≤ (T - P.f.getD i 0 + (P.tk i).2.1 - 1) / (P.tk i).2.1 := (Int.le_ediv_iff_mul_le (by omega)).2 (by rw [Int.add_mul]; omega)
    omega
/-- jobs that come below T, task by task -/
def jobsL (P : Pl) (T : Int) : List (Nat × Nat) := (List.range P.l.length).flatMap fun i => (List.range (P.cnt i T)).map fun k => (i, k)
theorem mem_jobsL {P : Pl} (hP : P.Ok) {T : Int} {i k : Nat} : (i, k) ∈ P.jobsL T ↔ i < P.l.length ∧ P.cm i k < T := by
  simp only [jobsL, List.mem_flatMap, List.mem_range, List.mem_map, Prod.mk.injEq]
  constructor
  · rintro ⟨j, hj, m, hm, rfl, rfl⟩
    exact ⟨hj, (cnt_iff hP hj T _).1 hm⟩
  · rintro ⟨h1, h2⟩
    exact ⟨i, h1, k, (cnt_iff hP h1 T k).2 h2, rfl, rfl⟩
/-- is told in time -/
def told (P : Pl) (done : List Dn) (i k : Nat) : Bool := done.any fun d => decide (d.1 = (i : Int) ∧ d.2.1 = (k : Int) ∧ d.2.2.2 ≤ P.du i k)
def lates (P : Pl) (done : List Dn) (T : Int) : List (Nat × Nat) := (P.jobsL T).filter fun b => decide (P.du b.1 b.2 ≤ T) && !P.told done b.1 b.2
theorem told_iff {P : Pl} {done : List Dn} {i k : Nat} : P.told done i k = true ↔ ∃ d ∈ done, d.1 = (i : Int) ∧ d.2.1 = (k : Int) ∧ d.2.2.2 ≤ P.du i k := by
  simp [told, List.any_eq_true]
theorem mem_lates {P : Pl} (hP : P.Ok) {T : Nat} {i k : Nat} : (i, k) ∈ P.lates (P.outs T) T ↔ i < P.l.length ∧ P.cm i k < T ∧ P.du i k ≤ T ∧ P.Lf (P.du i k).toNat i k ≠ 0 := by
  simp only [lates, List.mem_filter, mem_jobsL hP, Bool.and_eq_true, decide_eq_true_eq, Bool.not_eq_true']
  constructor
  · rintro ⟨⟨h1, h2⟩, h3, h4⟩
    refine ⟨h1, h2, h3, fun c => ?_⟩
    have := told_iff.2 ((intime_iff hP h1 h3).2 c)
    rw [h4] at this; simp at this
  · rintro ⟨h1, h2, h3, h4⟩
    refine ⟨⟨h1, h2⟩, h3, ?_⟩
    cases c : P.told (P.outs T) i k with
    | false => rfl
    | true => exact absurd ((intime_iff hP h1 h3).1 (told_iff.1 c)) h4
theorem no_lates {P : Pl} (hP : P.Ok) {T : Nat} : P.lates (P.outs T) T = [] ↔ ∀ i k, i < P.l.length → P.du i k ≤ T → P.Lf (P.du i k).toNat i k = 0 := by
  constructor
  · intro h i k hi hd
    apply Classical.byContradiction
    intro c
    have := (mem_lates hP).2 ⟨hi, by have := hP.due hi k; omega, hd, c⟩
    rw [h] at this; simp at this
  · intro h
    rw [List.eq_nil_iff_forall_not_mem]
    rintro ⟨i, k⟩ hm
    obtain ⟨h1, _, h3, h4⟩ := (mem_lates hP).1 hm
    exact h4 (h i k h1 h3)
end Pl
end PlayM
end Go.Proofs.Ytpnahhpkaegeeaa

/- Plain mathematics of plays: what is worked at; tasks behind others. -/
set_option linter.unusedVariables false
namespace Go.Proofs.Ytpnahhpkaegeeaa
open SpanM SupM TaskM
namespace PlayM
theorem sum_one {f g : Nat → Int} {n b : Nat} (hb : b < n) (ho : ∀ i, i ≠ b → g i = f i) : sumP (fun _ => true) g n = sumP (fun _ => true) f n + (g b - f b) := by
  induction n with
  | zero => omega
  | succ n ih =>
    simp only [sumP, if_true]
    by_cases c : b = n
    · subst c
      rw [sumP_eq (f := g) (g := f) fun i hi _ => ho i (by omega)]; omega
    · rw [ih (by omega), ho n (by omega)]; omega
namespace Pl
theorem fresh {P : Pl} (hP : P.Ok) {t i k : Nat} (hi : i < P.l.length) (h : (t : Int) ≤ P.cm i k) : P.Lf t i k = (P.tk i).1 := by
  induction t with
  | zero => rfl
  | succ t ih =>
    have e0 := ih (by omega)
    show P.next (P.Lf t) t i k = _
    rcases cases1 hP (P.Lf t) t with ⟨_, _, e, _⟩ | ⟨_, _, _, e, _⟩ | ⟨j, m, _, _, hb, e, _⟩
    · rw [e]; exact e0
    · rw [e]; exact e0
    · rw [e]
      by_cases c : i = j ∧ k = m
      · have := hb.1.2.1
        rw [← c.1, ← c.2] at this
        omega
      · rw [less_other _ c]; exact e0
theorem Lf_le {P : Pl} (hP : P.Ok) (t i k : Nat) : P.Lf t i k ≤ (P.tk i).1 := Lf_anti hP (Nat.zero_le t) i k
/-- of one job no more is done than there are times -/
theorem took {P : Pl} (hP : P.Ok) {s t : Nat} (h : s ≤ t) (i k : Nat) : P.Lf s i k - P.Lf t i k ≤ av P.on t - av P.on s := by
  obtain ⟨n, rfl⟩ : ∃ n, t = s + n := ⟨t - s, by omega⟩
  clear h
  induction n with
  | zero => simp
  | succ n ih =>
    rw [show s + (n + 1) = s + n + 1 by omega]
    simp only [av]
    have : P.Lf (s + n + 1) = P.next (P.Lf (s + n)) (s + n) := rfl
    rw [this]
    rcases cases1 hP (P.Lf (s + n)) (s + n) with ⟨ho, _, e, _⟩ | ⟨ho, _, _, e, _⟩ | ⟨j, m, ho, _, hb, e, _⟩
    · rw [e, ho]; simp; omega
    · rw [e, ho]; simp; omega
    · rw [e, ho]
      simp only [if_true]
      by_cases c : i = j ∧ k = m
      · rw [c.1, c.2] at ih ⊢
        rw [less_at]; omega
      · rw [less_other _ c]; omega
/-- how many jobs of a task are done -/
noncomputable def dn (P : Pl) : Nat → Nat → Nat
  | 0 => fun _ => 0
  | t + 1 => fun i => P.dn t i + (match P.ch (P.Lf t) t with | none => 0 | some b => if b.1 = i ∧ P.Lf t b.1 b.2 = 1 then 1 else 0)
theorem dn_none {P : Pl} {t : Nat} (h : P.ch (P.Lf t) t = none) (i : Nat) : P.dn (t + 1) i = P.dn t i := by
  show P.dn t i + _ = _
  rw [h]; rfl
theorem dn_some {P : Pl} {t j m : Nat} (h : P.ch (P.Lf t) t = some (j, m)) (i : Nat) : P.dn (t + 1) i = P.dn t i + (if j = i ∧ P.Lf t j m = 1 then 1 else 0) := by
  show P.dn t i + _ = _
  rw [h]
theorem order {P : Pl} (hP : P.Ok) (t : Nat) : (∀ i, i < P.l.length → (∀ k, k < P.dn t i → P.Lf t i k = 0) ∧ 0 < P.Lf t i (P.dn t i) ∧ ∀ k, P.dn t i < k → P.Lf t i k = (P.tk i).1) ∧ ∀ i m, P.Best (P.Lf t) t i m → m = P.dn t i := by
  have first : ∀ t, (∀ i, i < P.l.length → (∀ k, k < P.dn t i → P.Lf t i k = 0) ∧ 0 < P.Lf t i (P.dn t i) ∧ ∀ k, P.dn t i < k → P.Lf t i k = (P.tk i).1) → ∀ i m, P.Best (P.Lf t) t i m → m = P.dn t i := by
    intro t h i m hb
    obtain ⟨h1, h2, h3⟩ := h i hb.1.1
    by_cases c : m < P.dn t i
    · have := h1 m c
      have := hb.1.2.2
      omega
    · by_cases d : m = P.dn t i
      · exact d
      · exfalso
        have lt : P.dn t i < m := by omega
        have la := hP.later hb.1.1 lt
        have bf := hb.2 i (P.dn t i) ⟨hb.1.1, by have := hb.1.2.1; omega, h2⟩
        unfold Bef ky du at bf
        split at bf <;> omega
  have main : ∀ i, i < P.l.length → (∀ k, k < P.dn t i → P.Lf t i k = 0) ∧ 0 < P.Lf t i (P.dn t i) ∧ ∀ k, P.dn t i < k → P.Lf t i k = (P.tk i).1 := by
    induction t with
    | zero =>
      intro i hi
      have g := (hP.at hi).2.2.2.2.1
      exact ⟨fun k hk => by simp [dn] at hk, by show 0 < (P.tk i).1; omega, fun k _ => rfl⟩
    | succ t ih =>
      intro i hi
      obtain ⟨h1, h2, h3⟩ := ih i hi
      have hn : P.Lf (t + 1) = P.next (P.Lf t) t := rfl
      rcases cases1 hP (P.Lf t) t with ⟨_, hc, e, _⟩ | ⟨_, hc, _, e, _⟩ | ⟨j, m, _, hc, hb, e, _⟩
      · rw [dn_none hc, hn, e]; exact ⟨h1, h2, h3⟩
      · rw [dn_none hc, hn, e]; exact ⟨h1, h2, h3⟩
      · have hm := first t ih j m hb
        rw [dn_some hc, hn, e]
        by_cases c : j = i
        · subst c
          have g := (hP.at hi).2.2.2.2.1
          have pos := hb.1.2.2
          by_cases o : P.Lf t j m = 1
          · rw [if_pos ⟨rfl, o⟩]
            refine ⟨fun k hk => ?_, ?_, fun k hk => ?_⟩
            · by_cases q : k = m
              · rw [q, less_at, o]; rfl
              · rw [less_other _ (by omega)]; exact h1 k (by omega)
            · rw [less_other _ (by omega), h3 _ (by omega)]; omega
            · rw [less_other _ (by omega)]; exact h3 k (by omega)
          · rw [if_neg (fun h => o h.2), Nat.add_zero]
            refine ⟨fun k hk => ?_, ?_, fun k hk => ?_⟩
            · rw [less_other _ (by omega)]; exact h1 k hk
            · rw [← hm, less_at]; omega
            · rw [less_other _ (by omega)]; exact h3 k hk
        · rw [if_neg (fun h => c h.1), Nat.add_zero]
          refine ⟨fun k hk => ?_, ?_, fun k hk => ?_⟩
          · rw [less_other _ (by omega)]; exact h1 k hk
          · rw [less_other _ (by omega)]; exact h2
          · rw [less_other _ (by omega)]; exact h3 k hk
  exact ⟨main, first t main⟩
/-- how many of a list are of a task -/
def ofTask (d : List Dn) (i : Int) : Nat := d.countP fun x => decide (x.1 = i)
theorem ofTask_outs {P : Pl} (hP : P.Ok) (t i : Nat) : ofTask (P.outs t) (i : Int) = P.dn t i := by
  induction t with
  | zero => rfl
  | succ t ih =>
    show ofTask (P.outs t ++ P.out1 (P.Lf t) t) i = _
    unfold ofTask at ih ⊢
    rw [List.countP_append, ih]
    rcases cases1 hP (P.Lf t) t with ⟨_, hc, _, e, _⟩ | ⟨_, hc, _, _, e, _⟩ | ⟨j, m, _, hc, hb, _, e, _⟩
    · rw [dn_none hc, e]; rfl
    · rw [dn_none hc, e]; rfl
    · rw [dn_some hc, e]
      by_cases o : P.Lf t j m = 1
      · by_cases c : j = i
        · rw [if_pos o, if_pos ⟨c, o⟩]; simp [c]
        · rw [if_pos o, if_neg (fun h => c h.1)]; simp; omega
      · rw [if_neg o, if_neg (fun h => o h.2)]; rfl
/-- each has as many of its task ahead of it as its number says, and is done behind all of them -/
def InOrder (d : List Dn) : Prop := ∀ pre x post, d = pre ++ x :: post → x.2.1 = (ofTask pre x.1 : Int) ∧ ∀ y ∈ pre, y.2.2.2 < x.2.2.2
theorem InOrder.snoc {d : List Dn} {x : Dn} (h : InOrder d) (h1 : x.2.1 = (ofTask d x.1 : Int)) (h2 : ∀ y ∈ d, y.2.2.2 < x.2.2.2) : InOrder (d ++ [x]) := by
  intro pre y post e
  rcases List.eq_nil_or_concat post with rfl | ⟨post', z, rfl⟩
  · have e' : d ++ [x] = pre ++ [y] := e
    obtain ⟨e1, e2⟩ := List.append_inj' e' rfl
    simp only [List.cons.injEq, and_true] at e2
    subst e1 e2
    exact ⟨h1, h2⟩
  · rw [List.concat_eq_append] at e
    have e' : d ++ [x] = (pre ++ y :: post') ++ [z] := by rw [e]; simp
    obtain ⟨e1, _⟩ := List.append_inj' e' rfl
    exact h pre y post' e1
theorem outs_at {P : Pl} (hP : P.Ok) {t : Nat} {y : Dn} (h : y ∈ P.outs t) : y.2.2.2 ≤ t := by
  obtain ⟨u, i, k, h1, _, _, _, rfl⟩ := (mem_outs hP t y).1 h
  simp only; omega
theorem outs_order {P : Pl} (hP : P.Ok) (t : Nat) : InOrder (P.outs t) := by
  induction t with
  | zero => intro pre x post e; simp [outs] at e
  | succ t ih =>
    show InOrder (P.outs t ++ P.out1 (P.Lf t) t)
    rcases cases1 hP (P.Lf t) t with ⟨_, hc, _, e, _⟩ | ⟨_, hc, _, _, e, _⟩ | ⟨j, m, _, hc, hb, _, e, _⟩
    · rw [e, List.append_nil]; exact ih
    · rw [e, List.append_nil]; exact ih
    · rw [e]
      split
      · refine ih.snoc ?_ ?_
        · simp only
          rw [ofTask_outs hP, ← (order hP t).2 j m hb]
        · intro y hy
          have := outs_at hP hy
          simp only; omega
      · rw [List.append_nil]; exact ih
/-- how long those of a list take -/
def wk (P : Pl) (d : List Dn) : Int := (d.map fun x => (P.tk x.1.toNat).1).sum
theorem wk_snoc (P : Pl) (d : List Dn) (x : Dn) : P.wk (d ++ [x]) = P.wk d + (P.tk x.1.toNat).1 := by simp [wk]
theorem worked {P : Pl} (hP : P.Ok) (t : Nat) : P.wk (P.outs t) + sumP (fun _ => true) (fun i => (P.tk i).1 - P.Lf t i (P.dn t i)) P.l.length + P.idles t = av P.on t := by
  induction t with
  | zero =>
    have : sumP (fun _ => true) (fun i => (P.tk i).1 - P.Lf 0 i (P.dn 0 i)) P.l.length = 0 := by
      have e : ∀ n, sumP (fun _ => true) (fun i => (P.tk i).1 - P.Lf 0 i (P.dn 0 i)) n = 0 := by
        intro n
        induction n with
        | zero => rfl
        | succ n ih =>
          simp only [sumP, ih, if_true]
          show 0 + ((P.tk n).1 - (P.tk n).1) = 0
          omega
      exact e _
    rw [this]; simp [wk, outs, idles, av]
  | succ t ih =>
    have hn : P.Lf (t + 1) = P.next (P.Lf t) t := rfl
    have ho : P.outs (t + 1) = P.outs t ++ P.out1 (P.Lf t) t := rfl
    have hid : P.idles (t + 1) = P.idles t + P.idle1 (P.Lf t) t := rfl
    have hav : av P.on (t + 1) = av P.on t + (if P.on t = true then 1 else 0) := rfl
    rw [hn, ho, hid, hav]
    rcases cases1 hP (P.Lf t) t with ⟨q, hc, e, o, d⟩ | ⟨q, hc, _, e, o, d⟩ | ⟨j, m, q, hc, hb, e, o, d⟩
    · rw [e, o, d, q, List.append_nil, sumP_eq (g := fun i => (P.tk i).1 - P.Lf t i (P.dn t i)) fun i _ _ => by rw [dn_none hc]]
      simp; omega
    · rw [e, o, d, q, List.append_nil, sumP_eq (g := fun i => (P.tk i).1 - P.Lf t i (P.dn t i)) fun i _ _ => by rw [dn_none hc]]
      simp; omega
    · have hm := (order hP t).2 j m hb
      have g3 := ((order hP t).1 j hb.1.1).2.2 (m + 1) (by omega)
      have hs := sum_one (f := fun i => (P.tk i).1 - P.Lf t i (P.dn t i)) (g := fun i => (P.tk i).1 - less (P.Lf t) (j, m) i (P.dn (t + 1) i)) (n := P.l.length) (b := j) hb.1.1 (fun i hi => by
        show (P.tk i).1 - less (P.Lf t) (j, m) i (P.dn (t + 1) i) = (P.tk i).1 - P.Lf t i (P.dn t i)
        rw [dn_some hc, if_neg (fun h => hi h.1.symm), Nat.add_zero, less_other _ (fun h => hi h.1)])
      rw [e, o, d, q, hs]
      simp only [if_true]
      rw [dn_some hc]
      by_cases one : P.Lf t j m = 1
      · rw [if_pos one, if_pos ⟨rfl, one⟩, wk_snoc, ← hm, less_other _ (by omega), g3, one]
        try simp only [Int.toNat_natCast]
        omega
      · rw [if_neg one, if_neg (fun h => one h.2), List.append_nil, Nat.add_zero, ← hm, less_at]
        omega
theorem work_le {P : Pl} (hP : P.Ok) (t : Nat) : P.wk (P.outs t) + P.idles t ≤ av P.on t := by
  have a := worked hP t
  have b := sumP_nonneg (P := fun _ => true) (f := fun i => (P.tk i).1 - P.Lf t i (P.dn t i)) (n := P.l.length) (fun i _ _ => by have := Lf_le hP t i (P.dn t i); omega)
  omega
/-- between when it came and when it was done there were enough times -/
theorem took_long {P : Pl} (hP : P.Ok) {T : Nat} {x : Dn} (h : x ∈ P.outs T) : ∃ i k : Nat, i < P.l.length ∧ x.1 = (i : Int) ∧ x.2.1 = (k : Int) ∧ x.2.2.1 = P.cm i k ∧ 0 ≤ P.cm i k ∧ P.cm i k < x.2.2.2 ∧ x.2.2.2 ≤ T ∧ (P.tk i).1 ≤ cb P.size P.sl x.2.2.2 - cb P.size P.sl x.2.2.1 := by
  obtain ⟨t, i, k, h1, h2, h3, h4, rfl⟩ := (mem_outs hP T x).1 h
  have c0 := (hP.come h3.1.1 k).2
  have c1 := h3.1.2.1
  refine ⟨i, k, h3.1.1, rfl, rfl, rfl, c0, by simp only; omega, by simp only; omega, ?_⟩
  simp only
  have z : P.Lf (t + 1) i k = 0 := (zero_iff hP (t + 1) h3.1.1 k).2 ⟨t, by omega, h2, h3, h4⟩
  have f := fresh hP (t := (P.cm i k).toNat) (i := i) (k := k) h3.1.1 (by omega)
  have a := took hP (s := (P.cm i k).toNat) (t := t + 1) (by omega) i k
  rw [z, f] at a
  have e1 := av_cb hP.s1 hP.sg (t + 1)
  have e2 := av_cb hP.s1 hP.sg (P.cm i k).toNat
  have e3 : (((P.cm i k).toNat : Nat) : Int) = P.cm i k := by omega
  rw [e3] at e2
  have e4 : av P.on (t + 1) = cb P.size P.sl ((t + 1 : Nat) : Int) := e1
  have e5 : av P.on (P.cm i k).toNat = cb P.size P.sl (P.cm i k) := e2
  rw [e4, e5] at a
  have e6 : ((t + 1 : Nat) : Int) = (t : Int) + 1 := by omega
  rw [e6] at a
  omega
/-! tasks behind others -/
def front (P : Pl) (k : Nat) : Pl := { P with l := P.l.take k, f := P.f.take k }
theorem front_ok {P : Pl} (hP : P.Ok) (k : Nat) : (P.front k).Ok where
  tk := fun x hx => hP.tk x (List.mem_of_mem_take hx)
  len := by show (P.f.take k).length = (P.l.take k).length; rw [List.length_take, List.length_take, hP.len]
  f0 := fun x hx => hP.f0 x (List.mem_of_mem_take hx)
  s1 := hP.s1
  sg := hP.sg
theorem front_cm (P : Pl) {k i : Nat} (hi : i < k) (m : Nat) : (P.front k).cm i m = P.cm i m ∧ (P.front k).tk i = P.tk i := by
  have e1 : (P.front k).tk i = P.tk i := by
    show (P.l.take k).getD i _ = P.l.getD i _
    simp [List.getD, hi]
  have e2 : (P.front k).f.getD i 0 = P.f.getD i 0 := by
    show (P.f.take k).getD i 0 = P.f.getD i 0
    simp [List.getD, hi]
  exact ⟨by unfold cm; rw [e1, e2], e1⟩
theorem ahead_same {P : Pl} (hP : P.Ok) (hp : P.pol ≠ 1) (k t : Nat) : (∀ i m, i < k → (P.front k).Lf t i m = P.Lf t i m) ∧ (P.front k).outs t = (P.outs t).filter (fun d => decide (d.1 < (k : Int))) := by
  have hF := front_ok hP k
  induction t with
  | zero =>
    refine ⟨fun i m hi => ?_, rfl⟩
    show ((P.front k).tk i).1 = (P.tk i).1
    rw [(front_cm P hi 0).2]
  | succ t ih =>
    obtain ⟨ih1, ih2⟩ := ih
    have hlen : (P.front k).l.length = min k P.l.length := by show (P.l.take k).length = _; rw [List.length_take]
    have pn : ∀ i m, (P.front k).Pn ((P.front k).Lf t) t i m ↔ i < k ∧ P.Pn (P.Lf t) t i m := by
      intro i m
      unfold Pn
      rw [hlen]
      constructor
      · rintro ⟨h1, h2, h3⟩
        have hi : i < k := by omega
        rw [(front_cm P hi m).1] at h2
        rw [ih1 i m hi] at h3
        exact ⟨hi, by omega, h2, h3⟩
      · rintro ⟨hi, h1, h2, h3⟩
        rw [(front_cm P hi m).1, ih1 i m hi]
        exact ⟨by omega, h2, h3⟩
    have on' : (P.front k).on t = P.on t := rfl
    have n1 : P.Lf (t + 1) = P.next (P.Lf t) t := rfl
    have n2 : (P.front k).Lf (t + 1) = (P.front k).next ((P.front k).Lf t) t := rfl
    have o1 : P.outs (t + 1) = P.outs t ++ P.out1 (P.Lf t) t := rfl
    have o2 : (P.front k).outs (t + 1) = (P.front k).outs t ++ (P.front k).out1 ((P.front k).Lf t) t := rfl
    rw [n1, n2, o1, o2, List.filter_append, ih2]
    rcases cases1 hP (P.Lf t) t with ⟨q, hc, e, o, _⟩ | ⟨q, hc, hn, e, o, _⟩ | ⟨j, m, q, hc, hb, e, o, _⟩
    · rcases cases1 hF ((P.front k).Lf t) t with ⟨_, _, e', o', _⟩ | ⟨q', _⟩ | ⟨_, _, q', _⟩
      · rw [e, o, e', o']; exact ⟨ih1, rfl⟩
      · rw [on', q] at q'; simp at q'
      · rw [on', q] at q'; simp at q'
    · rcases cases1 hF ((P.front k).Lf t) t with ⟨q', _⟩ | ⟨_, _, _, e', o', _⟩ | ⟨_, _, _, _, hb', _⟩
      · rw [on', q] at q'; simp at q'
      · rw [e, o, e', o']; exact ⟨ih1, rfl⟩
      · exact absurd ((pn _ _).1 hb'.1).2 (hn _ _)
    · by_cases c : j < k
      · have hb' : (P.front k).Best ((P.front k).Lf t) t j m := by
          refine ⟨(pn j m).2 ⟨c, hb.1⟩, fun i n hpn => ?_⟩
          obtain ⟨hi, hpn'⟩ := (pn i n).1 hpn
          have := hb.2 i n hpn'
          have hp' : (P.front k).pol ≠ 1 := hp
          unfold Bef ky at this ⊢
          rw [if_neg hp, if_neg hp] at this
          rw [if_neg hp', if_neg hp']
          exact this
        rcases cases1 hF ((P.front k).Lf t) t with ⟨q', _⟩ | ⟨_, _, hn', _⟩ | ⟨j', m', _, _, hb2, e', o', _⟩
        · rw [on', q] at q'; simp at q'
        · exact absurd hb'.1 (hn' _ _)
        · obtain ⟨rfl, rfl⟩ := hb2.one hb'
          rw [e, o, e', o', ih1 j' m' c, (front_cm P c m').1]
          refine ⟨fun i n hi => ?_, ?_⟩
          · by_cases d : i = j' ∧ n = m'
            · obtain ⟨rfl, rfl⟩ := d
              rw [less_at, less_at, ih1 i n hi]
            · rw [less_other _ d, less_other _ d, ih1 i n hi]
          · split
            · rw [List.filter_cons, if_pos (by simp only [decide_eq_true_eq]; omega)]; rfl
            · rfl
      · have none' : ∀ i n, ¬ (P.front k).Pn ((P.front k).Lf t) t i n := by
          intro i n hpn
          obtain ⟨hi, hpn'⟩ := (pn i n).1 hpn
          have := hb.2 i n hpn'
          unfold Bef ky at this
          rw [if_neg hp, if_neg hp] at this
          omega
        rcases cases1 hF ((P.front k).Lf t) t with ⟨q', _⟩ | ⟨_, _, _, e', o', _⟩ | ⟨_, _, _, _, hb', _⟩
        · rw [on', q] at q'; simp at q'
        · rw [e, o, e', o']
          refine ⟨fun i n hi => ?_, ?_⟩
          · rw [less_other _ (by omega)]; exact ih1 i n hi
          · split
            · rw [List.filter_cons, if_neg (by simp only [decide_eq_true_eq]; omega)]; rfl
            · rfl
        · exact absurd hb'.1 (none' _ _)
end Pl
end PlayM
end Go.Proofs.Ytpnahhpkaegeeaa

/- Plain mathematics of replies, ahead of stage 7: the least that is enough; plays by the order of tasks keep it. -/
set_option linter.unusedVariables false
namespace Go.Proofs.Ytpnahhpkaegeeaa
open SpanM SupM TaskM RankM
namespace PlayM
/-- the least that is enough; 0: none is -/
def RepN (S : Int → Int) (p : List Tk) (x : Tk) (n : Int) : Prop := (Enough S p x n ∧ ∀ m, m < n → ¬ Enough S p x m) ∨ (n = 0 ∧ ∀ m, ¬ Enough S p x m)
theorem RepN.one {S : Int → Int} {p : List Tk} {x : Tk} {n m : Int} (h : RepN S p x n) (k : RepN S p x m) : n = m := by
  rcases h with ⟨h1, h2⟩ | ⟨h1, h2⟩ <;> rcases k with ⟨k1, k2⟩ | ⟨k1, k2⟩
  · by_cases c : n < m
    · exact absurd h1 (k2 n c)
    · by_cases d : m < n
      · exact absurd k1 (h2 m d)
      · omega
  · exact absurd h1 (k2 n)
  · exact absurd k1 (h2 m)
  · omega
noncomputable def rep (S : Int → Int) (p : List Tk) (x : Tk) : Int := Classical.epsilon (RepN S p x)
theorem rep_spec (S : Int → Int) (p : List Tk) (x : Tk) : RepN S p x (rep S p x) := by
  refine Classical.epsilon_spec (p := RepN S p x) ?_
  by_cases c : ∃ n, Enough S p x n
  · obtain ⟨n, hn⟩ := c
    obtain ⟨m, m1, m2⟩ := Pl.min_of (fun m : Nat => Enough S p x m) (fun m => m) ⟨n.toNat, by have := hn.1; rw [show ((n.toNat : Nat) : Int) = n by omega]; exact hn⟩
    refine ⟨m, .inl ⟨m1, fun k hk he => ?_⟩⟩
    have k1 := he.1
    have := m2 k.toNat (by rw [show ((k.toNat : Nat) : Int) = k by omega]; exact he)
    omega
  · exact ⟨0, .inr ⟨rfl, fun m hm => c ⟨m, hm⟩⟩⟩
theorem rep_eq {S : Int → Int} {p : List Tk} {x : Tk} {n : Int} (h : RepN S p x n) : n = rep S p x := h.one (rep_spec S p x)
theorem rep_pos {S : Int → Int} {p : List Tk} {x : Tk} (h : rep S p x ≠ 0) : Enough S p x (rep S p x) ∧ 1 ≤ rep S p x ∧ rep S p x ≤ x.2.2 ∧ ∀ m, m < rep S p x → ¬ Enough S p x m := by
  rcases rep_spec S p x with ⟨h1, h2⟩ | ⟨h1, _⟩
  · exact ⟨h1, h1.1, h1.2.1, h2⟩
  · exact absurd h1 h
theorem rep_none {S : Int → Int} {p : List Tk} {x : Tk} (h : rep S p x = 0) : ∀ m, ¬ Enough S p x m := by
  rcases rep_spec S p x with ⟨h1, _⟩ | ⟨_, h2⟩
  · have := h1.1; omega
  · exact h2
theorem rep_bd (S : Int → Int) (p : List Tk) {x : Tk} (hx : tok x) : 0 ≤ rep S p x ∧ rep S p x ≤ x.2.2 := by
  by_cases c : rep S p x = 0
  · have := hx.2.2.1; omega
  · obtain ⟨_, h1, h2, _⟩ := rep_pos c; omega
theorem rep_iff {S : Int → Int} {p : List Tk} {x : Tk} : rep S p x ≠ 0 ↔ Rep S p x := by
  constructor
  · intro h; exact ⟨_, (rep_pos h).1⟩
  · rintro ⟨n, hn⟩ c
    exact rep_none c n hn
/-- with no more needed it takes no longer -/
theorem rep_le {S : Int → Int} {p q : List Tk} {x : Tk} (h : ∀ n, 1 ≤ n → need q x n ≤ need p x n) (hr : rep S p x ≠ 0) : rep S q x ≠ 0 ∧ rep S q x ≤ rep S p x := by
  obtain ⟨⟨e1, e2, e3⟩, _⟩ := rep_pos hr
  have he : Enough S q x (rep S p x) := ⟨e1, e2, by have := h _ e1; omega⟩
  have hq : rep S q x ≠ 0 := fun c => rep_none c _ he
  refine ⟨hq, ?_⟩
  by_cases c : rep S p x < rep S q x
  · exact absurd he ((rep_pos hq).2.2.2 _ c)
  · omega
theorem up_iff {n e : Int} (he : 1 ≤ e) (k : Int) : k < up n e ↔ k * e < n := by
  unfold up
  have := Int.ediv_lt_iff_lt_mul (a := -n) (b := -k) (c := e) (by omega)
  rw [Int.neg_mul] at this
  omega
/-- where they come from 0 on just so many come -/
theorem per_come {x : Tk} (h : tok x) (n M : Nat) (hM : up n x.2.1 ≤ M) : lsum (inC 0 n) (perTask x 0 M) = x.1 * up n x.2.1 := by
  have e1 := h.1
  have up0 : 0 ≤ up (n : Int) x.2.1 := by
    have := (up_iff e1 (n := (n : Int)) (-1)).2 (by rw [show (-1 : Int) * x.2.1 = -x.2.1 by omega]; omega)
    omega
  have key : ∀ M : Nat, lsum (inC 0 n) (perTask x 0 M) = x.1 * min (up n x.2.1) M := by
    intro M
    induction M with
    | zero => rw [show min (up (n : Int) x.2.1) ((0 : Nat) : Int) = 0 by omega]; simp [perTask, lsum]
    | succ M ih =>
      have et : ((x.2.1.toNat : Nat) : Int) = x.2.1 := by omega
      have em : ((M * x.2.1.toNat : Nat) : Int) = (M : Int) * x.2.1 := by rw [Int.natCast_mul, et]
      simp only [perTask]
      rw [lsum_snoc, ih]
      have hi := up_iff e1 (n := (n : Int)) (M : Int)
      by_cases c : (M : Int) < up n x.2.1
      · have hle := hi.1 c
        have hp : inC 0 n (0 + M * x.2.1.toNat, 0 + M * x.2.1.toNat + x.2.2.toNat, x.1) = true := by
          simp [inC]; omega
        rw [if_pos hp, show min (up (n : Int) x.2.1) (M : Int) = M by omega, show min (up (n : Int) x.2.1) ((M + 1 : Nat) : Int) = (M : Int) + 1 by omega, Int.mul_add]
        simp
      · have hnle : ¬ (M : Int) * x.2.1 < n := fun hh => c (hi.2 hh)
        have hp : ¬ inC 0 n (0 + M * x.2.1.toNat, 0 + M * x.2.1.toNat + x.2.2.toNat, x.1) = true := by
          simp [inC]; omega
        rw [if_neg hp, show min (up (n : Int) x.2.1) (M : Int) = up n x.2.1 by omega, show min (up (n : Int) x.2.1) ((M + 1 : Nat) : Int) = up n x.2.1 by omega]
        simp
  rw [key M, show min (up (n : Int) x.2.1) (M : Int) = up n x.2.1 by omega]
theorem csum_come {ys : List (Tk × Nat × Nat)} {p n k : Nat} (h : ∀ y ∈ ys, tok y.1 ∧ y.2.1 = 0 ∧ up n y.1.2.1 ≤ y.2.2) (hk : k ≤ p + 1) : csum p 0 n (tagAll k ys) = ahead ((ys.map (·.1)).take (p + 1 - k)) n := by
  induction ys generalizing k with
  | nil => simp [tagAll, csum, ahead]
  | cons y r ih =>
    by_cases c : k ≤ p
    · obtain ⟨h1, h2, h3⟩ := h y (by simp)
      have a := ih (fun z hz => h z (by simp [hz])) (k := k + 1) (by omega)
      have b := per_come h1 n y.2.2 h3
      simp only [tagAll]
      rw [csum_append, csum_tag c, show p + 1 - k = (p + 1 - (k + 1)) + 1 by omega, h2]
      simp only [List.map_cons, List.take_succ_cons, ahead]
      rw [Int.mul_comm (up n y.1.2.1), b, a]
    · rw [csum_none (by omega), show p + 1 - k = 0 by omega]
      simp [ahead]
theorem tag_get (M : Nat) : ∀ (ys : List (Tk × Nat × Nat)), (∀ y ∈ ys, y.2.2 = M) → ∀ (c i k : Nat), i < ys.length → k < M → ((tagAll c ys).getD (i * M + k) (0, (0, 0, 0))).1 = c + i := by
  intro ys
  induction ys with
  | nil => intro _ c i k hi; simp at hi
  | cons y r ih =>
    intro h c i k hi hk
    have hy := h y (by simp)
    have hl : ((perTask y.1 y.2.1 y.2.2).map fun x => (c, x)).length = M := by rw [List.length_map, per_len, hy]
    simp only [tagAll]
    cases i with
    | zero =>
      rw [List.getD, List.getElem?_append_left (by rw [hl]; omega), List.getElem?_map]
      have hk' : k < (perTask y.1 y.2.1 y.2.2).length := by rw [per_len, hy]; exact hk
      simp [List.getElem?_eq_getElem hk']
    | succ i =>
      rw [List.getD, List.getElem?_append_right (by rw [hl, Nat.add_mul]; omega), hl, show (i + 1) * M + k - M = i * M + k by rw [Nat.add_mul]; omega]
      have := ih (fun z hz => h z (by simp [hz])) (c + 1) i k (by simpa using hi) hk
      rw [List.getD] at this
      rw [this]; omega
namespace Pl
theorem task_at (P : Pl) {M i k : Nat} (hi : i < P.l.length) (hk : k < M) : task (P.ys M) (i * M + k) = i := by
  have := tag_get M (P.ys M) (P.ys_M M) 0 i k (by simp [ys, hi]) hk
  unfold task
  rw [this]; omega
theorem task_idx (P : Pl) {M idx : Nat} (hM : 0 < M) (h : idx < P.l.length * M) : task (P.ys M) idx = idx / M := by
  obtain ⟨s1, s2, s3⟩ := split hM h
  have := P.task_at s1 s2
  rw [← s3] at this
  exact this
theorem run_fix' {P : Pl} (hP : P.Ok) (hp : P.pol ≠ 1) {M T : Nat} (hM : 0 < M) (hT : T ≤ M) : Fix (P.J M) (inS P.size P.sl) T (P.LL M) (P.cc M) (task (P.ys M)) := by
  intro t b ht ha hc idx hpe
  have h1 := run_fix hP hp hM hT t b ht ha hc idx hpe
  have hb := ((run hP hM hT).work t b ht ha hc).1.1
  rw [J_n] at hb
  have hi := hpe.1
  rw [J_n] at hi
  rw [P.task_idx hM hb, P.task_idx hM hi]
  exact h1
/-- LEHOCZKY, SHA, DING: each job is done within a reply -/
theorem reply_late {P : Pl} (hP : P.Ok) (hp : P.pol ≠ 1) {i n : Nat} (hi : i < P.l.length) (he : Enough (lst P.size P.sl) (P.l.take i) (P.tk i) n) {k T : Nat} (hT : P.cm i k + n ≤ T) : P.Lf (P.cm i k + n).toNat i k = 0 := by
  have c0 := hP.come hi k
  have hk : k < T + 1 := by omega
  have r := run hP (M := T + 1) (T := T) (by omega) (by omega)
  have f := run_fix' hP hp (M := T + 1) (T := T) (by omega) (by omega)
  have j1 := (J_at hP hi hk).1
  have c : (i + 1) * (T + 1) ≤ P.l.length * (T + 1) := Nat.mul_le_mul_right _ hi
  rw [Nat.add_mul] at c
  have := reply_holds (T := T) hP.s1 hP.sg (ys_ok hP (T + 1)) r f (p := i) (n := n) (x := P.tk i) (by rw [ys_tk]; unfold tk; simp [List.getD, hi]) (by rw [ys_tk]; exact he) (j := i * (T + 1) + k) (by show _ < (P.J (T + 1)).n; rw [J_n]; omega) (P.task_at hi hk) (by show (P.J (T + 1)).came _ + n ≤ T; omega)
  have e2 : P.LL (T + 1) ((P.J (T + 1)).came (i * (T + 1) + k) + n) (i * (T + 1) + k) = 0 := this
  unfold LL at e2
  rw [(join (i := i) hk).1, (join (i := i) hk).2, show (P.J (T + 1)).came (i * (T + 1) + k) + n = (P.cm i k + n).toNat by omega] at e2
  exact e2
theorem reply_done {P : Pl} (hP : P.Ok) (hp : P.pol ≠ 1) {i n : Nat} (hi : i < P.l.length) (he : Enough (lst P.size P.sl) (P.l.take i) (P.tk i) n) {T : Nat} {x : Dn} (hx : x ∈ P.outs T) (h1 : x.1 = (i : Int)) : x.2.2.2 - x.2.2.1 ≤ n := by
  obtain ⟨t, j, k, a1, a2, a3, a4, rfl⟩ := (mem_outs hP T x).1 hx
  simp only at h1 ⊢
  obtain rfl : j = i := by omega
  by_cases c : (t : Int) + 1 - P.cm j k ≤ n
  · exact c
  · exfalso
    have c0 := hP.come hi k
    have z := reply_late hP hp hi he (k := k) (T := T) (by omega)
    have an := Lf_anti hP (s := (P.cm j k + n).toNat) (t := t) (by omega) j k
    omega
theorem reply_nolate {P : Pl} (hP : P.Ok) (hp : P.pol ≠ 1) {i n : Nat} (hi : i < P.l.length) (he : Enough (lst P.size P.sl) (P.l.take i) (P.tk i) n) {T k : Nat} (hd : P.du i k ≤ T) : P.Lf (P.du i k).toNat i k = 0 := by
  have n2 := he.2.1
  have c0 := hP.come hi k
  have hd2 : P.du i k = P.cm i k + (P.tk i).2.2 := rfl
  have z := reply_late hP hp hi he (k := k) (T := T) (by omega)
  have an := Lf_anti hP (s := (P.cm i k + n).toNat) (t := (P.du i k).toNat) (by omega) i k
  have nn := Lf_nonneg hP (P.du i k).toNat hi k
  omega
/-- JOSEPH, PANDYA: with all times, and all coming at once, it takes no less than a reply -/
theorem exact_need {P : Pl} (hP : P.Ok) (hp : P.pol ≠ 1) (hf : ∀ x ∈ P.f, x = 0) (hs : P.size = 1) (hsl : P.sl = [(0, 1)]) {i t : Nat} (hi : i < P.l.length) (hd : (t : Int) + 1 ≤ (P.tk i).2.2) (hb : P.Best (P.Lf t) t i 0) (h1 : P.Lf t i 0 = 1) (ho : P.on t = true) :
    need (P.l.take i) (P.tk i) ((t : Int) + 1) ≤ (t : Int) + 1 := by
  have r := run hP (M := t + 2) (T := t + 1) (by omega) (by omega)
  have ok := hP.at hi
  have f0 : ∀ j, P.f.getD j 0 = 0 := by
    intro j
    by_cases hj : j < P.f.length
    · exact hf _ (by simp [List.getD, hj])
    · simp [List.getD, List.getElem?_eq_none (show P.f.length ≤ j by omega)]
  have z : P.Lf (t + 1) i 0 = 0 := (zero_iff hP (t + 1) hi 0).2 ⟨t, by omega, ho, hb, h1⟩
  have m := r.most (comes (P.J (t + 2)) (task (P.ys (t + 2))) i 0 (t + 1)) (s := 0) (t := t + 1) (by omega) (by omega)
  have e1 : sumP (comes (P.J (t + 2)) (task (P.ys (t + 2))) i 0 (t + 1)) (P.LL (t + 2) 0) (P.J (t + 2)).n = ahead (P.l.take (i + 1)) ((t : Int) + 1) := by
    rw [sumP_eq (g := (P.J (t + 2)).long) fun idx h _ => r.start idx h]
    have := sum_tag (P.ys (t + 2)) i 0 (t + 1)
    have g : sumP (comes (P.J (t + 2)) (task (P.ys (t + 2))) i 0 (t + 1)) (P.J (t + 2)).long (P.J (t + 2)).n = csum i 0 (t + 1) (tagAll 0 (P.ys (t + 2))) := this
    rw [g, csum_come (fun y hy => ?_) (by omega), ys_tk, Nat.sub_zero]
    · rw [show ((t + 1 : Nat) : Int) = (t : Int) + 1 by omega]
    · simp only [ys, List.mem_map, List.mem_range] at hy
      obtain ⟨j, hj, rfl⟩ := hy
      have okj := hP.at hj
      refine ⟨okj, by simp only [f0]; rfl, ?_⟩
      simp only
      have : ¬ ((t + 2 : Nat) : Int) < up ((t + 1 : Nat) : Int) (P.tk j).2.1 := by
        rw [up_iff okj.1]
        have c : ((t + 2 : Nat) : Int) * 1 ≤ ((t + 2 : Nat) : Int) * (P.tk j).2.1 := Int.mul_le_mul_of_nonneg_left okj.1 (by omega)
        omega
      omega
  have e2 : sumP (comes (P.J (t + 2)) (task (P.ys (t + 2))) i 0 (t + 1)) (P.LL (t + 2) (t + 1)) (P.J (t + 2)).n ≤ 0 := by
    have : sumP (comes (P.J (t + 2)) (task (P.ys (t + 2))) i 0 (t + 1)) (P.LL (t + 2) (t + 1)) (P.J (t + 2)).n ≤ sumP (comes (P.J (t + 2)) (task (P.ys (t + 2))) i 0 (t + 1)) (fun _ => 0) (P.J (t + 2)).n := sumP_le fun idx hn hc => by
      rw [J_n] at hn
      obtain ⟨s1, s2, s3⟩ := split (by omega) hn
      obtain ⟨c1, _, c3⟩ := comes_iff.1 hc
      rw [P.task_idx (by omega) hn] at c1
      have j1 := (J_at hP s1 s2).1
      rw [← s3] at j1
      show P.Lf (t + 1) _ _ ≤ 0
      by_cases q : idx / (t + 2) < i
      · have np : ¬ P.Pn (P.Lf t) t (idx / (t + 2)) (idx % (t + 2)) := fun hpn => by
          have bf := hb.2 _ _ hpn
          unfold Bef ky at bf
          rw [if_neg hp, if_neg hp] at bf
          omega
        have : ¬ 0 < P.Lf t (idx / (t + 2)) (idx % (t + 2)) := fun hh => np ⟨s1, by omega, hh⟩
        have dn := Lf_down hP t (idx / (t + 2)) (idx % (t + 2))
        omega
      · have q1 : idx / (t + 2) = i := by omega
        have q2 : idx % (t + 2) = 0 := by
          apply Classical.byContradiction
          intro hne
          have la := hP.come hi (idx % (t + 2))
          rw [q1] at j1
          have k1 : 1 ≤ idx % (t + 2) := by omega
          have mm : (1 : Int) * (P.tk i).2.1 ≤ ((idx % (t + 2) : Nat) : Int) * (P.tk i).2.1 := Int.mul_le_mul_of_nonneg_right (by omega) (by have := ok.1; omega)
          have cm' : P.cm i (idx % (t + 2)) = P.f.getD i 0 + ((idx % (t + 2) : Nat) : Int) * (P.tk i).2.1 := rfl
          rw [f0] at cm'
          have := ok.2.2.2.1
          omega
        rw [q1, q2, z]; exact Int.le_refl _
    have zero : ∀ n, sumP (comes (P.J (t + 2)) (task (P.ys (t + 2))) i 0 (t + 1)) (fun _ => 0) n = 0 := by
      intro n
      induction n with
      | zero => rfl
      | succ n ih => simp only [sumP, ih]; split <;> rfl
    rw [zero] at this
    exact this
  have e3 : av (inS P.size P.sl) (t + 1) - av (inS P.size P.sl) 0 = (t : Int) + 1 := by
    have := av_D hP.s1 hP.sg (show 0 ≤ t + 1 by omega)
    rw [this, hs, hsl]
    have a := all_D (size := 1) (n := ((t + 1 : Nat) : Int) - ((0 : Nat) : Int)) (t := ((0 : Nat) : Int)) (by omega) (by omega) (by omega)
    rw [a]; omega
  rw [e1, e3] at m
  have ts : P.l.take (i + 1) = P.l.take i ++ [P.tk i] := by
    rw [List.take_succ_eq_append_getElem hi]; unfold tk; simp [List.getD, hi]
  rw [ts, ahead_append] at m
  simp only [ahead] at m
  rw [up_one (by omega) (by have := ok.2.2.2.1; omega)] at m
  unfold need
  omega
/-- .. so that it is done just then -/
theorem exact_done {P : Pl} (hP : P.Ok) (hp : P.pol ≠ 1) (hf : ∀ x ∈ P.f, x = 0) (hs : P.size = 1) (hsl : P.sl = [(0, 1)]) {i T : Nat} (hi : i < P.l.length) (hT : (T : Int) = (P.tk i).2.2) {x : Dn} (hx : x ∈ P.outs T) (h1 : x.1 = (i : Int)) (h2 : x.2.1 = 0) : x.2.2.2 = rep (lst P.size P.sl) (P.l.take i) (P.tk i) := by
  obtain ⟨t, j, k, a1, a2, a3, a4, rfl⟩ := (mem_outs hP T x).1 hx
  simp only at h1 h2 ⊢
  obtain rfl : j = i := by omega
  obtain rfl : k = 0 := by omega
  have f0 : P.f.getD j 0 = 0 := hf _ (by have := hP.len; simp [List.getD, show j < P.f.length by omega])
  have cm0 : P.cm j 0 = 0 := by unfold cm; rw [f0]; simp
  have n1 := exact_need hP hp hf hs hsl hi (by omega) a3 a4 a2
  have l1 : lst P.size P.sl ((t : Int) + 1) = (t : Int) + 1 := by rw [hs, hsl]; exact all_lst (by omega) (by omega)
  have en : Enough (lst P.size P.sl) (P.l.take j) (P.tk j) ((t : Int) + 1) := ⟨by omega, by omega, by rw [l1]; exact n1⟩
  have hr : rep (lst P.size P.sl) (P.l.take j) (P.tk j) ≠ 0 := fun c => rep_none c _ en
  obtain ⟨r1, r2, r3, r4⟩ := rep_pos hr
  have le : rep (lst P.size P.sl) (P.l.take j) (P.tk j) ≤ (t : Int) + 1 := by
    by_cases c : (t : Int) + 1 < rep (lst P.size P.sl) (P.l.take j) (P.tk j)
    · exact absurd en (r4 _ c)
    · omega
  have ge := reply_done hP hp hi (n := (rep (lst P.size P.sl) (P.l.take j) (P.tk j)).toNat) (by rw [show (((rep (lst P.size P.sl) (P.l.take j) (P.tk j)).toNat : Nat) : Int) = rep (lst P.size P.sl) (P.l.take j) (P.tk j) by omega]; exact r1) hx rfl
  simp only at ge
  rw [cm0] at ge
  omega
theorem exact_some {P : Pl} (hP : P.Ok) (hp : P.pol ≠ 1) (hf : ∀ x ∈ P.f, x = 0) {i T : Nat} (hi : i < P.l.length) (hT : (T : Int) = (P.tk i).2.2) (hr : rep (lst P.size P.sl) (P.l.take i) (P.tk i) ≠ 0) : ∃ x ∈ P.outs T, x.1 = (i : Int) ∧ x.2.1 = 0 := by
  obtain ⟨r1, r2, r3, r4⟩ := rep_pos hr
  have f0 : P.f.getD i 0 = 0 := hf _ (by have := hP.len; simp [List.getD, show i < P.f.length by omega])
  have cm0 : P.cm i 0 = 0 := by unfold cm; rw [f0]; simp
  have z := reply_late hP hp hi (n := (rep (lst P.size P.sl) (P.l.take i) (P.tk i)).toNat) (by rw [show (((rep (lst P.size P.sl) (P.l.take i) (P.tk i)).toNat : Nat) : Int) = rep (lst P.size P.sl) (P.l.take i) (P.tk i) by omega]; exact r1) (k := 0) (T := T) (by rw [cm0]; omega)
  obtain ⟨t, t1, t2, t3, t4⟩ := (zero_iff hP _ hi 0).1 z
  rw [cm0] at t1
  exact ⟨_, (mem_outs hP T _).2 ⟨t, i, 0, by omega, t2, t3, t4, rfl⟩, rfl, rfl⟩
/-- where each has a reply none is late, by the order of tasks and by what is due first -/
theorem all_reply {P : Pl} (hP : P.Ok) (h : ∀ i, i < P.l.length → rep (lst P.size P.sl) (P.l.take i) (P.tk i) ≠ 0) (T : Nat) : P.lates (P.outs T) T = [] := by
  have key : ∀ Q : Pl, Q.Ok → Q.pol ≠ 1 → (∀ i, i < Q.l.length → rep (lst Q.size Q.sl) (Q.l.take i) (Q.tk i) ≠ 0) → ∀ i k, i < Q.l.length → Q.du i k ≤ T → Q.Lf (Q.du i k).toNat i k = 0 := by
    intro Q hQ hq hh i k hi hd
    obtain ⟨r1, r2, r3, _⟩ := rep_pos (hh i hi)
    exact reply_nolate hQ hq hi (n := (rep (lst Q.size Q.sl) (Q.l.take i) (Q.tk i)).toNat) (by rw [show (((rep (lst Q.size Q.sl) (Q.l.take i) (Q.tk i)).toNat : Nat) : Int) = rep (lst Q.size Q.sl) (Q.l.take i) (Q.tk i) by omega]; exact r1) hd
  by_cases c : P.pol = 1
  · refine (no_lates hP).2 fun i k hi hd => ?_
    have hQ : ({ P with pol := 2 } : Pl).Ok := ⟨hP.tk, hP.len, hP.f0, hP.s1, hP.sg⟩
    exact best_late (P' := { P with pol := 2 }) hP c rfl (fun i k hi hd => key { P with pol := 2 } hQ (by simp) h i k hi hd) hi hd
  · exact (no_lates hP).2 (key P hP c h)
end Pl
end PlayM
end Go.Proofs.Ytpnahhpkaegeeaa

/- Plain mathematics of replies: leaping from one n to the wait for what is needed within it. -/
set_option linter.unusedVariables false
namespace Go.Proofs.Ytpnahhpkaegeeaa
open SpanM SupM TaskM RankM
namespace PlayM
theorem ahead_mono {p : List Tk} (h : ∀ y ∈ p, tok y) {n m : Int} (hm : n ≤ m) : ahead p n ≤ ahead p m := by
  induction p with
  | nil => exact Int.le_refl _
  | cons y r ih =>
    have a := ih fun z hz => h z (by simp [hz])
    have ty := h y (by simp)
    have u := up_mono ty.1 hm
    have b : up n y.2.1 * y.1 ≤ up m y.2.1 * y.1 := Int.mul_le_mul_of_nonneg_right u (by have := ty.2.2.2.2.1; omega)
    simp only [ahead]; omega
theorem term_bd {y : Tk} (h : tok y) {n : Int} (h1 : 1 ≤ n) (h2 : n ≤ 10000) : 1 ≤ up n y.2.1 ∧ up n y.2.1 ≤ 10000 ∧ 0 ≤ y.1 * up n y.2.1 ∧ y.1 * up n y.2.1 ≤ 20000 := by
  obtain ⟨e1, e2, d1, d2, g1, g2⟩ := h
  have u1 := up_pos h1 e1
  have hq : (-n) / y.2.1 * y.2.1 ≥ -n - (y.2.1 - 1) := by
    have a := Int.emod_add_mul_ediv (-n) y.2.1
    have b := Int.emod_lt_of_pos (-n) (show 0 < y.2.1 by omega)
    rw [Int.mul_comm] at a
    omega
  have hu : up n y.2.1 * y.2.1 ≤ n + y.2.1 - 1 := by
    unfold up
    rw [Int.neg_mul]; omega
  have c1 : up n y.2.1 * 1 ≤ up n y.2.1 * y.2.1 := Int.mul_le_mul_of_nonneg_left e1 (by omega)
  have c2 : y.1 * up n y.2.1 ≤ y.2.1 * up n y.2.1 := Int.mul_le_mul_of_nonneg_right (by omega) (by omega)
  have c3 : 0 ≤ y.1 * up n y.2.1 := Int.mul_nonneg (by omega) (by omega)
  rw [Int.mul_comm y.2.1] at c2
  have hu1 : up n y.2.1 ≤ n := by
    unfold up
    have : -n ≤ (-n) / y.2.1 := by
      refine (Int.le_ediv_iff_mul_le (by omega)).2 ?_
      have : n * 1 ≤ n * y.2.1 := Int.mul_le_mul_of_nonneg_left e1 (by omega)
      rw [Int.neg_mul]; omega
    omega
  omega
theorem ahead_bd {p : List Tk} (h : ∀ y ∈ p, tok y) {n : Int} (h1 : 1 ≤ n) (h2 : n ≤ 10000) : 0 ≤ ahead p n ∧ ahead p n ≤ p.length * 20000 := by
  induction p with
  | nil => simp [ahead]
  | cons y r ih =>
    have a := ih fun z hz => h z (by simp [hz])
    have b := term_bd (h y (by simp)) h1 h2
    rw [Int.mul_comm] at b
    simp only [ahead, List.length_cons]
    omega
theorem need_mono {p : List Tk} (h : ∀ y ∈ p, tok y) (x : Tk) {n m : Int} (hm : n ≤ m) : need p x n ≤ need p x m := by
  have := ahead_mono h hm
  unfold need; omega
theorem need_bd {p : List Tk} (h : ∀ y ∈ p, tok y) {x : Tk} (hx : tok x) (hp : p.length ≤ 16) {n : Int} (h1 : 1 ≤ n) (h2 : n ≤ 10000) : 1 ≤ need p x n ∧ need p x n ≤ 1000000 := by
  have a := ahead_bd h h1 h2
  obtain ⟨e1, e2, d1, d2, g1, g2⟩ := hx
  unfold need; omega
theorem need_snoc (p : List Tk) (x y : Tk) (n : Int) : need (p ++ [y]) x n = need p x n + y.1 * up n y.2.1 := by
  unfold need
  rw [ahead_append]
  simp only [ahead]
  rw [Int.mul_comm]; omega
theorem need_nil (x : Tk) (n : Int) : need [] x n = x.1 := by unfold need; simp [ahead]
/-- a set without times has never enough -/
theorem lst_nil (size n : Int) : lst size [] n = 0 := by
  unfold lst D cb
  simp [lmin, cnt]
theorem rep_nil {size : Int} {p : List Tk} (h : ∀ y ∈ p, tok y) {x : Tk} (hx : tok x) : rep (lst size []) p x = 0 := by
  refine (rep_eq (.inr ⟨rfl, fun m hm => ?_⟩)).symm
  obtain ⟨h1, h2, h3⟩ := hm
  rw [lst_nil] at h3
  have := ahead_nonneg h h1
  have := hx.2.2.2.2.1
  unfold need at h3
  omega
/-- none below n is enough -/
def NoneB (S : Int → Int) (p : List Tk) (x : Tk) (n : Int) : Prop := ∀ m, 1 ≤ m → m < n → ¬ Enough S p x m
theorem none_start (S : Int → Int) (p : List Tk) (x : Tk) : NoneB S p x 1 := fun m h1 h2 => by omega
theorem none_end {S : Int → Int} {p : List Tk} {x : Tk} {n : Int} (h : NoneB S p x n) (hn : ¬ n ≤ x.2.2) : rep S p x = 0 :=
  (rep_eq (.inr ⟨rfl, fun m hm => h m hm.1 (by have := hm.2.1; omega) hm⟩)).symm
variable {size : Int} {sl : List Sp}
theorem none_leap (hs : 1 ≤ size) (hg : good size (-1) sl = true) (hl : sl ≠ []) {p : List Tk} (h : ∀ y ∈ p, tok y) {x : Tk} (hx : tok x) {n : Int} (h1 : 1 ≤ n) (hn : NoneB (lst size sl) p x n) : NoneB (lst size sl) p x (wt size sl (need p x n)) := by
  intro m m1 m2 hm
  by_cases c : m < n
  · exact hn m m1 c hm
  · have e := hm.2.2
    have mono := need_mono h x (show n ≤ m by omega)
    have nn : 1 ≤ need p x n := by
      have := ahead_nonneg h h1
      have := hx.2.2.2.2.1
      unfold need; omega
    have := (wt_iff hs hg hl nn (by omega) (lst_P hs hg (show 0 ≤ m by omega))).1 (by omega)
    omega
theorem leap_end (hs : 1 ≤ size) (hg : good size (-1) sl = true) (hl : sl ≠ []) {p : List Tk} (h : ∀ y ∈ p, tok y) {x : Tk} (hx : tok x) {n : Int} (h1 : 1 ≤ n) (h2 : n ≤ x.2.2) (hn : NoneB (lst size sl) p x n) (hw : wt size sl (need p x n) ≤ n) : rep (lst size sl) p x = n := by
  have nn : 1 ≤ need p x n := by
    have := ahead_nonneg h h1
    have := hx.2.2.2.2.1
    unfold need; omega
  refine (rep_eq (.inl ⟨⟨h1, h2, (wt_iff hs hg hl nn (by omega) (lst_P hs hg (show 0 ≤ n by omega))).2 hw⟩, fun m hm he => hn m he.1 hm he⟩)).symm
end PlayM
end Go.Proofs.Ytpnahhpkaegeeaa

/- Plain mathematics of plays: the jobs in a row. -/
set_option linter.unusedVariables false
namespace Go.Proofs.Ytpnahhpkaegeeaa
open SpanM SupM TaskM
namespace PlayM
namespace Pl
/-- the jobs of the first i tasks -/
def jn (P : Pl) (T : Int) (i : Nat) : List (Nat × Nat) := (List.range i).flatMap fun i => (List.range (P.cnt i T)).map fun k => (i, k)
/-- .. and the first k of the task i -/
def jk (P : Pl) (T : Int) (i k : Nat) : List (Nat × Nat) := P.jn T i ++ (List.range k).map fun k => (i, k)
theorem jn_all (P : Pl) (T : Int) : P.jn T P.l.length = P.jobsL T := rfl
theorem jn_zero (P : Pl) (T : Int) : P.jn T 0 = [] := rfl
theorem jk_zero (P : Pl) (T : Int) (i : Nat) : P.jk T i 0 = P.jn T i := by simp [jk]
theorem jk_succ (P : Pl) (T : Int) (i k : Nat) : P.jk T i (k + 1) = P.jk T i k ++ [(i, k)] := by simp [jk, List.range_succ]
theorem jn_succ (P : Pl) (T : Int) (i : Nat) : P.jn T (i + 1) = P.jk T i (P.cnt i T) := by simp [jn, jk, List.range_succ, List.flatMap_append]
theorem jk_len (P : Pl) (T : Int) (i k : Nat) : (P.jk T i k).length = (P.jn T i).length + k := by simp [jk]
theorem jn_len (P : Pl) (T : Int) (i : Nat) : (P.jn T (i + 1)).length = (P.jn T i).length + P.cnt i T := by rw [jn_succ, jk_len]
theorem cnt_le {P : Pl} (hP : P.Ok) {i : Nat} (hi : i < P.l.length) (T : Int) : P.cnt i T ≤ T.toNat := by
  by_cases h : P.cnt i T = 0
  · omega
  · have := (cnt_iff hP hi T (P.cnt i T - 1)).1 (by omega)
    have c := (hP.come hi (P.cnt i T - 1)).1
    omega
theorem jn_bd {P : Pl} (hP : P.Ok) (T : Int) : ∀ i, i ≤ P.l.length → (P.jn T i).length ≤ i * T.toNat
  | 0, _ => by simp [jn_zero]
  | i + 1, h => by
    have a := jn_bd hP T i (by omega)
    have b := cnt_le hP (show i < P.l.length by omega) T
    rw [jn_len, Nat.add_mul]; omega
/-- how many, as the program counts them -/
theorem cnt_eq {P : Pl} (hP : P.Ok) {i : Nat} (hi : i < P.l.length) (T : Int) : ((P.cnt i T : Nat) : Int) = (max 0 (T - P.f.getD i 0) + (P.tk i).2.1 - 1) / (P.tk i).2.1 := by
  have e1 := (hP.at hi).1
  unfold cnt
  by_cases h : P.f.getD i 0 ≤ T
  · have h0 : 0 ≤ (T - P.f.getD i 0 + (P.tk i).2.1 - 1) / (P.tk i).2.1 := Int.ediv_nonneg (by omega) (by omega)
    rw [Int.max_eq_right (by omega)]
    omega
  · have h1 : (max 0 (T - P.f.getD i 0) + (P.tk i).2.1 - 1) / (P.tk i).2.1 = 0 := by
      rw [Int.max_eq_left (by omega)]
      exact Int.ediv_eq_zero_of_lt (by omega) (by omega)
    have h2 : (T - P.f.getD i 0 + (P.tk i).2.1 - 1) / (P.tk i).2.1 < 1 := Int.ediv_lt_of_lt_mul (by omega) (by omega)
    rw [h1]; omega
theorem tk_at (P : Pl) (i : Nat) : P.tk i = P.l.getD i (0, 0, 0) := rfl
/-- what is told of until -/
def untG (P : Pl) (T : Int) : Int := if 2000 < (P.jobsL T).length then 2 else 0
def untE (P : Pl) (T : Int) : Int := if 0 ≤ T ∧ T ≤ 20000 then P.untG T else 1
/-- the tasks and firsts alone -/
def bare (l : List Tk) (f : List Int) : Pl := ⟨l, f, 1, [], 1⟩
theorem bare_ok {l : List Tk} {f : List Int} (h1 : ∀ x ∈ l, tok x) (h2 : f.length = l.length) (h3 : ∀ x ∈ f, 0 ≤ x) : (bare l f).Ok := ⟨h1, h2, h3, Int.le_refl 1, by rfl⟩
theorem Ok.bare {P : Pl} (h : P.Ok) : (bare P.l P.f).Ok := bare_ok h.tk h.len h.f0
end Pl
/-- what is told of first -/
def fok (x : Int) : Prop := 0 ≤ x ∧ x ≤ 10000
instance (x : Int) : Decidable (fok x) := by unfold fok; infer_instance
def fstG (f : List Int) : Int := if ∀ x ∈ f, fok x then 0 else 4
def fstE (n : Nat) (f : List Int) : Int := if f.length = n then fstG f else 4
theorem fstE_zero {n : Nat} {f : List Int} (h : fstE n f = 0) : f.length = n ∧ ∀ x ∈ f, fok x := by
  unfold fstE fstG at h
  split at h
  · split at h
    · exact ⟨‹_›, ‹_›⟩
    · simp at h
  · simp at h
theorem fstE_cases (n : Nat) (f : List Int) : fstE n f = 0 ∨ fstE n f = 4 := by
  unfold fstE fstG
  split
  · split <;> simp
  · simp
end PlayM
end Go.Proofs.Ytpnahhpkaegeeaa
