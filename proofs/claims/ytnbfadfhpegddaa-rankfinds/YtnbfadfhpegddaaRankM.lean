/- Plain mathematics of replies and orders: what a task needs with those ahead of it; which orders are good. -/
import Derived.Test.YtnbfadfhpegddaaPlayM3
set_option linter.unusedVariables false
namespace Go.Proofs.Ytnbfadfhpegddaa
open SpanM SupM TaskM PlayM
namespace RankM
/-- what those ahead need within n -/
def ahead : List Tk → Int → Int
  | [], _ => 0
  | y :: r, n => up n y.2.1 * y.1 + ahead r n
theorem ahead_append (p r : List Tk) (n : Int) : ahead (p ++ r) n = ahead p n + ahead r n := by
  induction p with
  | nil => simp [ahead]
  | cons y s ih => simp only [List.cons_append, ahead, ih]; omega
theorem ahead_perm {p r : List Tk} (h : p.Perm r) (n : Int) : ahead p n = ahead r n := by
  induction h with
  | nil => rfl
  | cons x _ ih => simp only [ahead, ih]
  | swap x y l => simp only [ahead]; omega
  | trans _ _ ih1 ih2 => rw [ih1, ih2]
theorem term_nonneg {y : Tk} (h : tok y) {n : Int} (hn : 1 ≤ n) : 0 ≤ up n y.2.1 * y.1 :=
  Int.mul_nonneg (by have := up_pos hn h.1; omega) (by have := h.2.2.2.2.1; omega)
theorem ahead_nonneg {p : List Tk} (h : ∀ y ∈ p, tok y) {n : Int} (hn : 1 ≤ n) : 0 ≤ ahead p n := by
  induction p with
  | nil => simp [ahead]
  | cons y r ih =>
    have a := ih fun z hz => h z (by simp [hz])
    have b := term_nonneg (h y (by simp)) hn
    simp only [ahead]; omega
theorem ahead_sub {p r : List Tk} (h : ∀ y ∈ r, tok y) (hs : p.Sublist r) {n : Int} (hn : 1 ≤ n) : ahead p n ≤ ahead r n := by
  induction hs with
  | slnil => exact Int.le_refl _
  | cons y _ ih =>
    have a := ih fun z hz => h z (by simp [hz])
    have b := term_nonneg (h y (by simp)) hn
    simp only [ahead]; omega
  | cons_cons y _ ih =>
    have a := ih fun z hz => h z (by simp [hz])
    simp only [ahead]; omega
/-- what a task needs within n, with those ahead of it -/
def need (p : List Tk) (x : Tk) (n : Int) : Int := x.1 + ahead p n
/-- n times are enough for it -/
def Enough (S : Int → Int) (p : List Tk) (x : Tk) (n : Int) : Prop := 1 ≤ n ∧ n ≤ x.2.2 ∧ need p x n ≤ S n
/-- it has a reply -/
def Rep (S : Int → Int) (p : List Tk) (x : Tk) : Prop := ∃ n, Enough S p x n
theorem Rep.perm {S : Int → Int} {p r : List Tk} {x : Tk} (h : Rep S p x) (hp : p.Perm r) : Rep S r x := by
  obtain ⟨n, h1, h2, h3⟩ := h
  exact ⟨n, h1, h2, by unfold need at *; rw [← ahead_perm hp]; exact h3⟩
theorem Rep.sub {S : Int → Int} {p r : List Tk} {x : Tk} (h : Rep S r x) (ht : ∀ y ∈ r, tok y) (hs : p.Sublist r) : Rep S p x := by
  obtain ⟨n, h1, h2, h3⟩ := h
  have := ahead_sub ht hs h1
  exact ⟨n, h1, h2, by unfold need at *; omega⟩
/-- each has a reply behind those ahead of it, the first ones behind p -/
def Good (S : Int → Int) : List Tk → List Tk → Prop
  | _, [] => True
  | p, x :: r => Rep S p x ∧ Good S (p ++ [x]) r
theorem Good.perm {S : Int → Int} {l : List Tk} : ∀ {p q : List Tk}, Good S p l → p.Perm q → Good S q l := by
  induction l with
  | nil => intro p q _ _; trivial
  | cons x r ih => intro p q h hp; exact ⟨h.1.perm hp, ih h.2 (hp.append_right [x])⟩
/-- LEUNG, WHITEHEAD: of two beside one another the one that is due first may go first -/
theorem Good.swap {S : Int → Int} {p r : List Tk} {x y : Tk} (hx : tok x) (hy : tok y) (hp : ∀ z ∈ p, tok z) (hd : y.2.2 ≤ x.2.2) (h : Good S p (x :: y :: r)) : Good S p (y :: x :: r) := by
  obtain ⟨h1, h2, h3⟩ := h
  refine ⟨?_, ?_, ?_⟩
  · exact h2.sub (by intro z hz; simp at hz; rcases hz with hz | rfl; exact hp z hz; exact hx) (List.sublist_append_left p [x])
  · obtain ⟨n, n1, n2, n3⟩ := h2
    refine ⟨n, n1, by omega, ?_⟩
    have u1 : up n y.2.1 = 1 := up_one n1 (by have := hy.2.2.2.1; omega)
    have u2 := up_pos n1 hx.1
    have hl : 0 ≤ x.1 := by have := hx.2.2.2.2.1; omega
    have m := Int.mul_le_mul_of_nonneg_right u2 hl
    unfold need at *
    rw [ahead_append] at n3 ⊢
    simp only [ahead, u1] at n3 ⊢
    omega
  · exact h3.perm (by
      rw [List.append_assoc, List.append_assoc]
      exact List.Perm.append_left p (List.Perm.swap y x []))
theorem Good.front {S : Int → Int} {u : List Tk} : ∀ {p v : List Tk} {y : Tk}, (∀ z ∈ p, tok z) → (∀ z ∈ u, tok z ∧ y.2.2 ≤ z.2.2) → tok y → Good S p (u ++ y :: v) → Good S p (y :: (u ++ v)) := by
  induction u with
  | nil => intro p v y _ _ _ h; exact h
  | cons x r ih =>
    intro p v y hp hu hy h
    obtain ⟨h1, h2⟩ := h
    have hx := hu x (by simp)
    have h3 := ih (p := p ++ [x]) (by intro z hz; simp at hz; rcases hz with hz | rfl; exact hp z hz; exact hx.1) (fun z hz => hu z (by simp [hz])) hy h2
    exact Good.swap hx.1 hy hp hx.2 ⟨h1, h3⟩
/-- if any order is good, each order by what is due is -/
theorem Good.sorted {S : Int → Int} {m : List Tk} : ∀ {p l : List Tk}, (∀ z ∈ p, tok z) → (∀ z ∈ l, tok z) → l.Perm m → m.Pairwise (fun x y => x.2.2 ≤ y.2.2) → Good S p l → Good S p m := by
  induction m with
  | nil => intro p l _ _ _ _ _; trivial
  | cons y r ih =>
    intro p l hp hl hpm hs h
    have hy : y ∈ l := hpm.mem_iff.2 (by simp)
    obtain ⟨u, v, rfl⟩ := List.append_of_mem hy
    have hperm : (u ++ v).Perm r := by
      have : (y :: (u ++ v)).Perm (y :: r) := List.perm_middle.symm.trans hpm
      exact this.cons_inv
    obtain ⟨s1, s2⟩ := List.pairwise_cons.1 hs
    have hu : ∀ z ∈ u, tok z ∧ y.2.2 ≤ z.2.2 := fun z hz => ⟨hl z (by simp [hz]), s1 z (hperm.mem_iff.1 (by simp [hz]))⟩
    have ty := hl y (by simp)
    obtain ⟨g1, g2⟩ := Good.front hp hu ty h
    refine ⟨g1, ih (by intro z hz; simp at hz; rcases hz with hz | rfl; exact hp z hz; exact ty) (fun z hz => hl z (by simp at hz ⊢; rcases hz with hz | hz <;> simp [hz])) hperm s2 g2⟩
/-- the last of a good order has a reply behind all others -/
theorem Good.last {S : Int → Int} {l : List Tk} : ∀ {p : List Tk} {x : Tk}, Good S p (l ++ [x]) → Rep S (p ++ l) x := by
  induction l with
  | nil => intro p x h; simpa using h.1
  | cons y r ih =>
    intro p x h
    have := ih h.2
    simpa using this
/-- AUDSLEY: with one less it is good still -/
theorem Good.less {S : Int → Int} {l : List Tk} : ∀ {p q r : List Tk}, (∀ z ∈ p, tok z) → (∀ z ∈ l, tok z) → q.Sublist p → r.Sublist l → Good S p l → Good S q r := by
  induction l with
  | nil =>
    intro p q r _ _ _ hr _
    cases hr
    trivial
  | cons x l ih =>
    intro p q r hp hl hq hr h
    have hpx : ∀ z ∈ p ++ [x], tok z := by intro z hz; simp at hz; rcases hz with hz | rfl; exact hp z hz; exact hl _ (by simp)
    cases hr with
    | cons _ hr => exact ih hpx (fun z hz => hl z (by simp [hz])) (hq.trans (List.sublist_append_left p [x])) hr h.2
    | cons_cons _ hr => exact ⟨h.1.sub hp hq, ih hpx (fun z hz => hl z (by simp [hz])) (hq.append (List.Sublist.refl [x])) hr h.2⟩
theorem Good.snoc {S : Int → Int} {l : List Tk} : ∀ {p : List Tk} {x : Tk}, Good S p l → Rep S (p ++ l) x → Good S p (l ++ [x]) := by
  induction l with
  | nil => intro p x _ h; exact ⟨by simpa using h, trivial⟩
  | cons y r ih => intro p x h hr; exact ⟨h.1, ih h.2 (by simpa using hr)⟩
/-- one of several that has a reply behind all others may go last -/
theorem Good.choose {S : Int → Int} {F G o : List Tk} {x : Tk} (ht : ∀ z ∈ F, tok z) (hx : F.Perm (x :: G)) (ho : o.Perm F) (h : Good S [] o) : ∃ o', o'.Perm G ∧ Good S [] o' := by
  have hm : x ∈ o := ho.mem_iff.2 (hx.mem_iff.2 (by simp))
  obtain ⟨u, v, rfl⟩ := List.append_of_mem hm
  refine ⟨u ++ v, ?_, ?_⟩
  · have : (x :: (u ++ v)).Perm (x :: G) := List.perm_middle.symm.trans (ho.trans hx)
    exact this.cons_inv
  · exact Good.less (p := []) (by simp) (fun z hz => ht z (ho.mem_iff.1 hz)) (List.Sublist.refl _) ((List.Sublist.refl u).append (List.sublist_cons_self x v)) h
theorem Good.some_last {S : Int → Int} {F o : List Tk} (hne : F ≠ []) (ho : o.Perm F) (h : Good S [] o) : ∃ x G, F.Perm (x :: G) ∧ Rep S G x := by
  have hno : o ≠ [] := by
    intro e
    subst e
    exact hne ho.symm.eq_nil
  have e := (List.dropLast_concat_getLast hno)
  rw [← e] at h ho
  have r := Good.last h
  refine ⟨o.getLast hno, o.dropLast, ho.symm.trans (List.perm_append_comm), by simpa using r⟩
end RankM
end Go.Proofs.Ytnbfadfhpegddaa
