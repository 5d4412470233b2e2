/- Plain mathematics of orders, ahead of stage 8: lists of numbers, each once; what is found from the end. -/
import Derived.Test.YtnbfadfhpegddaaRankM
set_option linter.unusedVariables false
namespace Go.Proofs.Ytnbfadfhpegddaa
open SpanM SupM TaskM PlayM
namespace RankM
/-- a list that has all of another one, each of which stands there once, and is no longer, has just these -/
theorem perm_of_all {α : Type} : ∀ (xs o : List α), xs.Nodup → (∀ x ∈ xs, x ∈ o) → o.length ≤ xs.length → xs.Perm o := by
  intro xs
  induction xs with
  | nil =>
    intro o _ _ hl
    have : o = [] := List.length_eq_zero_iff.1 (by simpa using hl)
    rw [this]
  | cons x r ih =>
    intro o hn hm hl
    obtain ⟨u, v, rfl⟩ := List.append_of_mem (hm x (by simp))
    obtain ⟨n1, n2⟩ := List.nodup_cons.1 hn
    have h := ih (u ++ v) n2 (fun y hy => by
      have := hm y (by simp [hy])
      simp only [List.mem_append, List.mem_cons] at this ⊢
      rcases this with h | rfl | h
      · exact .inl h
      · exact absurd hy n1
      · exact .inr h) (by simp at hl ⊢; omega)
    exact (h.cons x).trans List.perm_middle.symm
/-- the numbers below n -/
def nums (n : Nat) : List Int := (List.range n).map fun (i : Nat) => (i : Int)
theorem nums_nodup (n : Nat) : (nums n).Nodup := by
  unfold nums
  exact List.Pairwise.map _ (fun a b h => by intro e; exact h (by omega)) (List.nodup_range (n := n))
theorem mem_nums {n : Nat} {x : Int} : x ∈ nums n ↔ 0 ≤ x ∧ x < n := by
  simp only [nums, List.mem_map, List.mem_range]
  constructor
  · rintro ⟨i, hi, rfl⟩; omega
  · rintro ⟨h1, h2⟩; exact ⟨x.toNat, by omega, by omega⟩
theorem nums_len (n : Nat) : (nums n).length = n := by simp [nums]
/-- is it an order of so many? -/
def OrdP (n : Nat) (o : List Int) : Prop := o.length = n ∧ ∀ i : Nat, i < n → (i : Int) ∈ o
theorem OrdP.perm {n : Nat} {o : List Int} (h : OrdP n o) : (nums n).Perm o :=
  perm_of_all _ _ (nums_nodup n) (fun x hx => by
    obtain ⟨h1, h2⟩ := mem_nums.1 hx
    have := h.2 x.toNat (by omega)
    rwa [show ((x.toNat : Nat) : Int) = x by omega] at this) (by rw [nums_len, h.1]; exact Nat.le_refl _)
theorem OrdP.of_perm {n : Nat} {o : List Int} (h : (nums n).Perm o) : OrdP n o :=
  ⟨by rw [← h.length_eq, nums_len], fun i hi => h.mem_iff.1 (mem_nums.2 (by omega))⟩
theorem OrdP.bd {n : Nat} {o : List Int} (h : OrdP n o) {x : Int} (hx : x ∈ o) : 0 ≤ x ∧ x < n := mem_nums.1 (h.perm.mem_iff.2 hx)
theorem OrdP.nodup {n : Nat} {o : List Int} (h : OrdP n o) : o.Nodup := (h.perm.nodup_iff).1 (nums_nodup n)
/-- the tasks in that order -/
def get (l : List Tk) (i : Int) : Tk := l.getD i.toNat (0, 0, 0)
def ord (l : List Tk) (o : List Int) : List Tk := o.map (get l)
theorem ord_nums (l : List Tk) : ord l (nums l.length) = l := by
  apply List.ext_getElem
  · simp [ord, nums]
  · intro i h1 h2
    simp [ord, nums, get, List.getD, h2]
theorem ord_perm {l : List Tk} {o : List Int} (h : OrdP l.length o) : l.Perm (ord l o) := by
  have : (ord l (nums l.length)).Perm (ord l o) := h.perm.map _
  rwa [ord_nums] at this
theorem get_mem {l : List Tk} {i : Int} (h0 : 0 ≤ i) (h1 : i < l.length) : get l i ∈ l := by
  unfold get
  simp [List.getD, show i.toNat < l.length by omega]
/-- each has a reply behind those ahead of it, by its place -/
theorem good_iff {S : Int → Int} {m : List Tk} : ∀ {p : List Tk}, Good S p m ↔ ∀ (i : Nat) (h : i < m.length), Rep S (p ++ m.take i) m[i] := by
  induction m with
  | nil => intro p; exact ⟨fun _ i h => by simp at h, fun _ => trivial⟩
  | cons x r ih =>
    intro p
    constructor
    · rintro ⟨h1, h2⟩ i hi
      cases i with
      | zero => simpa using h1
      | succ i =>
        have := (ih (p := p ++ [x])).1 h2 i (by simpa using hi)
        simpa using this
    · intro h
      refine ⟨by have := h 0 (by simp); simp only [List.take_zero, List.append_nil, List.getElem_cons_zero] at this; exact this, (ih (p := p ++ [x])).2 fun i hi => ?_⟩
      have := h (i + 1) (by simpa using hi)
      simpa using this
/-- by a key, the least first; of several with the same by number -/
def ByP (key : Tk → Int) (l : List Tk) (o : List Int) : Prop := OrdP l.length o ∧ o.Pairwise fun i j => key (get l i) < key (get l j) ∨ (key (get l i) = key (get l j) ∧ i < j)
theorem ByP.one {key : Tk → Int} {l : List Tk} {o q : List Int} (h : ByP key l o) (k : ByP key l q) : o = q := by
  refine List.Perm.eq_of_pairwise (le := fun i j => key (get l i) < key (get l j) ∨ (key (get l i) = key (get l j) ∧ i < j)) ?_ h.2 k.2 (h.1.perm.symm.trans k.1.perm)
  intro a b _ _ h1 h2
  omega
theorem ByP.sorted {key : Tk → Int} {l : List Tk} {o : List Int} (h : ByP key l o) : (ord l o).Pairwise fun x y => key x ≤ key y := by
  unfold ord
  rw [List.pairwise_map]
  exact h.2.imp fun h => by omega
/-- LEUNG, WHITEHEAD -/
theorem due_good {S : Int → Int} {l : List Tk} (hl : ∀ x ∈ l, tok x) {o q : List Int} (ho : OrdP l.length o) (hq : ByP (fun x => x.2.2) l q) (h : Good S [] (ord l o)) : Good S [] (ord l q) :=
  Good.sorted (p := []) (l := ord l o) (by simp) (fun z hz => hl z ((ord_perm ho).mem_iff.2 hz)) ((ord_perm ho).symm.trans (ord_perm hq.1)) hq.sorted h
/-- LIU, LAYLAND -/
theorem every_good {S : Int → Int} {l : List Tk} (hl : ∀ x ∈ l, tok x) (hd : ∀ x ∈ l, x.2.2 = x.2.1) {o q : List Int} (ho : OrdP l.length o) (hq : ByP (fun x => x.2.1) l q) (h : Good S [] (ord l o)) : Good S [] (ord l q) := by
  refine Good.sorted (p := []) (l := ord l o) (by simp) (fun z hz => hl z ((ord_perm ho).mem_iff.2 hz)) ((ord_perm ho).symm.trans (ord_perm hq.1)) ?_ h
  have hm := (ord_perm hq.1)
  have hs := hq.sorted
  refine List.Pairwise.imp_of_mem (fun {a b} ha hb hab => ?_) hs
  rw [hd a (hm.mem_iff.2 ha), hd b (hm.mem_iff.2 hb)]
  exact hab
/-- what is found for some tasks, by their numbers, from the end -/
inductive Found (S : Int → Int) (l : List Tk) : List Int → Option (List Int) → Prop
  | nil : Found S l [] (some [])
  | step {u v : List Int} {i : Int} {r : Option (List Int)} : (∀ u' j v', u ++ i :: v = u' ++ j :: v' → u'.length < u.length → ¬ Rep S (ord l (u' ++ v')) (get l j)) → Rep S (ord l (u ++ v)) (get l i) → Found S l (u ++ v) r → Found S l (u ++ i :: v) (r.map fun o => o ++ [i])
  | no {left : List Int} : left ≠ [] → (∀ u j v, left = u ++ j :: v → ¬ Rep S (ord l (u ++ v)) (get l j)) → Found S l left none
theorem Found.good {S : Int → Int} {l : List Tk} {left : List Int} {r : Option (List Int)} (h : Found S l left r) : ∀ o, r = some o → left.Perm o ∧ Good S [] (ord l o) := by
  induction h with
  | nil => intro o e; simp at e; subst e; exact ⟨List.Perm.refl _, trivial⟩
  | @step u v i r _ hr hf ih =>
    intro o e
    cases r with
    | none => simp at e
    | some q =>
      simp only [Option.map_some, Option.some.injEq] at e
      subst e
      obtain ⟨p1, p2⟩ := ih q rfl
      refine ⟨?_, ?_⟩
      · exact (List.perm_middle.trans (p1.cons i)).trans (List.perm_append_comm (l₁ := [i]))
      · have hro : Rep S (ord l q) (get l i) := hr.perm (p1.map _)
        have := Good.snoc (p := []) p2 (by simpa using hro)
        simpa [ord] using this
  | no _ _ => intro o e; simp at e
/-- AUDSLEY: where none is found none is good -/
theorem Found.bad {S : Int → Int} {l : List Tk} {left : List Int} {r : Option (List Int)} (h : Found S l left r) : (∀ i ∈ left, tok (get l i)) → r = none → ∀ o, o.Perm left → ¬ Good S [] (ord l o) := by
  induction h with
  | nil => intro _ e; simp at e
  | @step u v i r _ hr hf ih =>
    intro ht e o ho hg
    cases r with
    | some q => simp at e
    | none =>
      have ht' : ∀ j ∈ u ++ v, tok (get l j) := fun j hj => ht j (by simp at hj ⊢; rcases hj with h | h <;> simp [h])
      -- without i it is good still
      have hm : i ∈ o := ho.mem_iff.2 (by simp)
      obtain ⟨a, b, rfl⟩ := List.append_of_mem hm
      have hp : (a ++ b).Perm (u ++ v) := by
        have : (i :: (a ++ b)).Perm (i :: (u ++ v)) := List.perm_middle.symm.trans (ho.trans List.perm_middle)
        exact this.cons_inv
      refine ih ht' rfl (a ++ b) hp ?_
      refine Good.less (p := []) (l := ord l (a ++ i :: b)) (by simp) (fun z hz => ?_) (List.Sublist.refl _) ?_ hg
      · simp only [ord, List.mem_map] at hz
        obtain ⟨j, hj, rfl⟩ := hz
        exact ht j (ho.mem_iff.1 hj)
      · exact ((List.Sublist.refl a).append (List.sublist_cons_self i b)).map _
  | @no left hne hno =>
    intro ht _ o ho hg
    have hno' : o ≠ [] := by
      intro e
      subst e
      exact hne ho.symm.eq_nil
    have e := List.dropLast_concat_getLast hno'
    generalize o.dropLast = a at e
    generalize o.getLast hno' = i at e
    subst e
    have hrep : Rep S (ord l a) (get l i) := by
      have : Good S [] (ord l a ++ [get l i]) := by simpa [ord] using hg
      simpa using Good.last this
    have hm : i ∈ left := ho.mem_iff.1 (by simp)
    obtain ⟨u, v, rfl⟩ := List.append_of_mem hm
    have hp : a.Perm (u ++ v) := by
      have : (i :: a).Perm (i :: (u ++ v)) := (List.perm_append_comm (l₁ := [i])).trans (ho.trans List.perm_middle)
      exact this.cons_inv
    exact hno u i v rfl (hrep.perm (hp.map _))
/-- one way alone -/
theorem Found.one {S : Int → Int} {l : List Tk} {left : List Int} {r q : Option (List Int)} (h : Found S l left r) (k : Found S l left q) : r = q := by
  induction h generalizing q with
  | nil =>
    generalize hl : ([] : List Int) = left at k
    cases k with
    | nil => rfl
    | step _ _ _ => simp at hl
    | no hne _ => exact absurd hl.symm hne
  | @step u v i r h1 h2 h3 ih =>
    generalize hl : u ++ i :: v = left at k
    cases k with
    | nil => simp at hl
    | @step u' v' i' q' k1 k2 k3 =>
      have hlen : u.length = u'.length := by
        by_cases c : u.length < u'.length
        · exact absurd h2 (k1 u i v hl.symm c)
        · by_cases d : u'.length < u.length
          · exact absurd k2 (h1 u' i' v' hl d)
          · omega
      obtain ⟨e1, e2⟩ := List.append_inj hl hlen
      simp only [List.cons.injEq] at e2
      obtain ⟨rfl, rfl⟩ := e2
      subst e1
      rw [ih k3]
    | no _ hno => exact absurd h2 (hno u i v hl.symm)
  | @no left hne hno =>
    cases k with
    | nil => exact absurd rfl hne
    | step _ k2 _ => exact absurd k2 (hno _ _ _ rfl)
    | no _ _ => rfl
end RankM
end Go.Proofs.Ytnbfadfhpegddaa
