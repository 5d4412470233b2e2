/- Plain mathematics of the queue: a heap of jobs. -/
import Derived.Test.YtgplaoojimpbaaaHpA
set_option linter.unusedVariables false
namespace Go.Proofs.Ytgplaoojimpbaaa
open SpanM SpanC PlayM
namespace PlayC
/-- goes ahead, or as well -/
def leJ (x y : Jb) : Prop := ¬ ltJ y x
theorem leJ_of_lt {x y : Jb} (h : ltJ x y) : leJ x y := by unfold leJ ltJ at *; omega
theorem leJ_trans {x y z : Jb} (h : leJ x y) (h' : leJ y z) : leJ x z := by unfold leJ ltJ at *; omega
theorem leJ_refl (x : Jb) : leJ x x := by unfold leJ ltJ; omega
/-- each stands behind its parent, among the first n -/
def Heap (l : List Jb) (n : Nat) : Prop := ∀ i, 0 < i → i < n → leJ (gt l ((i - 1) / 2)) (gt l i)
/-- all but j are in their places -/
def UpI (l : List Jb) (n j : Nat) : Prop := (∀ i, 0 < i → i < n → i ≠ j → leJ (gt l ((i - 1) / 2)) (gt l i)) ∧ (∀ i, 0 < i → i < n → (i - 1) / 2 = j → 0 < j → leJ (gt l ((j - 1) / 2)) (gt l i))
theorem UpI.done {l : List Jb} {n j : Nat} (h : UpI l n j) (h' : 0 < j → j < n → leJ (gt l ((j - 1) / 2)) (gt l j)) : Heap l n := fun i h0 h1 => by
  by_cases e : i = j
  · subst e; exact h' h0 h1
  · exact h.1 i h0 h1 e
theorem UpI.start {l : List Jb} {n : Nat} (h : Heap l n) (x : Jb) (hn : n = l.length) : UpI (l ++ [x]) (n + 1) n := by
  refine ⟨fun i h0 h1 h2 => ?_, fun i h0 h1 h2 h3 => by omega⟩
  have h4 : i < l.length := by omega
  have e1 : gt (l ++ [x]) i = gt l i := by unfold gt; simp [List.getD, List.getElem?_append_left h4]
  have e2 : gt (l ++ [x]) ((i - 1) / 2) = gt l ((i - 1) / 2) := by unfold gt; simp [List.getD, List.getElem?_append_left (show (i - 1) / 2 < l.length by omega)]
  rw [e1, e2]
  exact h i h0 (by omega)
theorem UpI.step {l : List Jb} {n j : Nat} (h : UpI l n j) (hj : 0 < j) (hjn : j < n) (hn : n ≤ l.length) (hlt : ltJ (gt l j) (gt l ((j - 1) / 2))) : UpI (sw l ((j - 1) / 2) j) n ((j - 1) / 2) := by
  obtain ⟨h1, h2⟩ := h
  generalize hp : (j - 1) / 2 = p at *
  have hpj : p < j := by omega
  have g : ∀ k, gt (sw l p j) k = if k = p then gt l j else if k = j then gt l p else gt l k := fun k => gt_sw l p j k (by omega) (by omega)
  refine ⟨fun i a b c => ?_, fun i a b c d => ?_⟩
  · rw [g, g i, if_neg c]
    by_cases e1 : i = j
    · rw [if_pos (by omega), if_pos e1]; exact leJ_of_lt hlt
    · rw [if_neg e1]
      by_cases e2 : (i - 1) / 2 = p
      · rw [if_pos e2]
        have := h1 i a b e1
        rw [e2] at this
        exact leJ_trans (leJ_of_lt hlt) this
      · rw [if_neg e2]
        by_cases e3 : (i - 1) / 2 = j
        · rw [if_pos e3]; exact h2 i a b e3 hj
        · rw [if_neg e3]; exact h1 i a b e1
  · rw [g, g i, if_neg (by omega), if_neg (by omega), if_neg (by omega)]
    have t1 := h1 p d (by omega) (by omega)
    by_cases e1 : i = j
    · rw [if_pos e1]; exact t1
    · rw [if_neg e1]
      have := h1 i a b e1
      rw [c] at this
      exact leJ_trans t1 this
/-- all but the children of i are in their places -/
def DnI (l : List Jb) (n i : Nat) : Prop := (∀ c, 0 < c → c < n → (c - 1) / 2 ≠ i → leJ (gt l ((c - 1) / 2)) (gt l c)) ∧ (0 < i → ∀ c, 0 < c → c < n → (c - 1) / 2 = i → leJ (gt l ((i - 1) / 2)) (gt l c))
theorem DnI.done {l : List Jb} {n i : Nat} (h : DnI l n i) (h' : ∀ c, 0 < c → c < n → (c - 1) / 2 = i → leJ (gt l i) (gt l c)) : Heap l n := fun c h0 h1 => by
  by_cases e : (c - 1) / 2 = i
  · rw [e]; exact h' c h0 h1 e
  · exact h.1 c h0 h1 e
theorem DnI.step {l : List Jb} {n i j : Nat} (h : DnI l n i) (hj0 : 0 < j) (hj : (j - 1) / 2 = i) (hjn : j < n) (hn : n ≤ l.length) (hlt : ltJ (gt l j) (gt l i)) (hmin : ∀ c, 0 < c → c < n → (c - 1) / 2 = i → leJ (gt l j) (gt l c)) : DnI (sw l i j) n j := by
  obtain ⟨h1, h2⟩ := h
  have g : ∀ k, gt (sw l i j) k = if k = i then gt l j else if k = j then gt l i else gt l k := fun k => gt_sw l i j k (by omega) (by omega)
  refine ⟨fun c a b d => ?_, fun a c b d e => ?_⟩
  · rw [g, g c]
    by_cases e1 : (c - 1) / 2 = i
    · rw [if_pos e1, if_neg (by omega)]
      by_cases e2 : c = j
      · rw [if_pos e2]; exact leJ_of_lt hlt
      · rw [if_neg e2]; exact hmin c a b e1
    · rw [if_neg e1, if_neg d]
      by_cases e2 : c = i
      · rw [if_pos e2]
        have := h2 (by omega) j hj0 hjn hj
        rw [e2]; exact this
      · rw [if_neg e2, if_neg (by omega)]
        exact h1 c a b e1
  · rw [hj, g, g c, if_pos rfl, if_neg (by omega), if_neg (by omega)]
    have := h1 c b d (by omega)
    rw [e] at this; exact this
/-- what stands first goes ahead of all -/
theorem Heap.first {l : List Jb} {n : Nat} (h : Heap l n) : ∀ i, i < n → leJ (gt l 0) (gt l i) := by
  intro i
  induction i using Nat.strongRecOn with
  | _ i ih =>
    intro hi
    by_cases e : i = 0
    · subst e; exact leJ_refl _
    · exact leJ_trans (ih ((i - 1) / 2) (by omega) (by omega)) (h i (by omega) hi)
/-- the last put first, and taken away -/
theorem DnI.start {l : List Jb} {n : Nat} (h : Heap l (n + 1)) (hn : n + 1 = l.length) : DnI (sw l 0 n) n 0 := by
  have g : ∀ k, gt (sw l 0 n) k = if k = 0 then gt l n else if k = n then gt l 0 else gt l k := fun k => gt_sw l 0 n k (by omega) (by omega)
  refine ⟨fun c a b d => ?_, fun a => by omega⟩
  rw [g, g c, if_neg d, if_neg (by omega), if_neg (by omega), if_neg (by omega)]
  exact h c a (by omega)
theorem gt_take {l : List Jb} {n i : Nat} (h : i < n) : gt (l.take n) i = gt l i := by unfold gt; simp [List.getD, h]
theorem Heap.take {l : List Jb} {n : Nat} (h : Heap l n) : Heap (l.take n) n := fun i h0 h1 => by
  rw [gt_take h1, gt_take (by omega)]; exact h i h0 h1
theorem heap_nil : Heap [] 0 := fun i h0 h1 => by omega
/-- the last, and the others -/
theorem last_perm {l : List Jb} {n : Nat} (hn : n + 1 = l.length) : (gt l n :: l.take n).Perm l := by
  have e : l = l.take n ++ [gt l n] := by
    conv => lhs; rw [← List.take_append_drop n l]
    congr 1
    rw [List.drop_eq_getElem_cons (by omega), List.drop_of_length_le (by omega)]
    unfold gt
    rw [getD_at l n (by omega)]
  conv => rhs; rw [e]
  exact (List.perm_append_singleton _ _).symm
end PlayC
end Go.Proofs.Ytgplaoojimpbaaa
