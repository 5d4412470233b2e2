/- Plain mathematics of orders (stage 8): numbers put in order by a key, one after the other and by counting; orders and back; what is found from the end, by filters. -/
import Derived.Test.YtnbfadfhpegddaaPlayM8
import Derived.Test.YtnbfadfhpegddaaRankM2
set_option linter.unusedVariables false
namespace Go.Proofs.Ytnbfadfhpegddaa
open SpanM SupM TaskM PlayM
namespace RankM
theorem nums_getD {n k : Nat} (h : k < n) : (nums n).getD k 0 = k := by simp [nums, List.getD, h]
theorem nums_drop {n i : Nat} (h : i < n) : (nums n).drop i = (i : Int) :: (nums n).drop (i + 1) := by
  rw [List.drop_eq_getElem_cons (by rw [nums_len]; exact h)]
  congr 1
  simp [nums]
theorem nums_take {n i : Nat} (h : i < n) : (nums n).take (i + 1) = (nums n).take i ++ [(i : Int)] := by
  rw [List.take_succ_eq_append_getElem (by rw [nums_len]; exact h)]
  simp [nums]
theorem mem_nums_take {n i : Nat} {x : Int} (h : x ∈ (nums n).take i) : 0 ≤ x ∧ x < i ∧ x < n := by
  rw [List.mem_take_iff_getElem] at h
  obtain ⟨k, hk, rfl⟩ := h
  have : k < n := by have := nums_len n; omega
  simp [nums]; omega
/-- ahead by a key; of several with the same by number -/
def Lex (κ : Int → Int) (i j : Int) : Prop := κ i < κ j ∨ (κ i = κ j ∧ i < j)
instance (κ : Int → Int) (i j : Int) : Decidable (Lex κ i j) := by unfold Lex; infer_instance
def KP (κ : Int → Int) (n : Nat) (o : List Int) : Prop := OrdP n o ∧ o.Pairwise (Lex κ)
theorem KP.one {κ : Int → Int} {n : Nat} {o q : List Int} (h : KP κ n o) (k : KP κ n q) : o = q := by
  refine List.Perm.eq_of_pairwise (le := Lex κ) ?_ h.2 k.2 (h.1.perm.symm.trans k.1.perm)
  intro a b _ _ h1 h2
  unfold Lex at h1 h2
  omega
theorem KP.exists (κ : Int → Int) (n : Nat) : ∃ o, KP κ n o := by
  refine ⟨(nums n).mergeSort (fun i j => decide (κ i < κ j ∨ (κ i = κ j ∧ i ≤ j))), ?_, ?_⟩
  · exact OrdP.of_perm (List.mergeSort_perm _ _).symm
  · have h := List.pairwise_mergeSort (le := fun i j : Int => decide (κ i < κ j ∨ (κ i = κ j ∧ i ≤ j))) (by intro a b c h1 h2; simp only [decide_eq_true_eq] at *; omega) (by intro a b; simp only [Bool.or_eq_true, decide_eq_true_eq]; omega) (nums n)
    have hn : ((nums n).mergeSort (fun i j => decide (κ i < κ j ∨ (κ i = κ j ∧ i ≤ j)))).Nodup := ((List.mergeSort_perm _ _).nodup_iff).2 (nums_nodup n)
    refine (h.and hn).imp ?_
    rintro a b ⟨h1, h2⟩
    simp only [decide_eq_true_eq] at h1
    unfold Lex
    omega
noncomputable def ordBy (κ : Int → Int) (n : Nat) : List Int := Classical.epsilon (KP κ n)
theorem ordBy_spec (κ : Int → Int) (n : Nat) : KP κ n (ordBy κ n) := Classical.epsilon_spec (KP.exists κ n)
theorem KP.eq {κ : Int → Int} {n : Nat} {o : List Int} (h : KP κ n o) : o = ordBy κ n := h.one (ordBy_spec κ n)
theorem ordBy_byP (key : Tk → Int) (l : List Tk) : ByP key l (ordBy (fun i => key (get l i)) l.length) := ordBy_spec _ _
/-! one put in its place after the other -/
def swp (l : List Int) (a b : Nat) : List Int := (l.set a (l.getD b 0)).set b (l.getD a 0)
theorem swp_at (u r : List Int) (y x : Int) : swp (u ++ y :: x :: r) (u.length + 1) u.length = u ++ x :: y :: r := by
  unfold swp
  have e1 : (u ++ y :: x :: r).getD (u.length + 1) 0 = x := by simp [List.getD]
  have e2 : (u ++ y :: x :: r).getD u.length 0 = y := by simp [List.getD]
  rw [e1, e2, List.set_append_right _ _ (by omega), show u.length + 1 - u.length = 1 by omega]
  simp
def Ins (κ : Int → Int) (n i : Nat) (li : List Int) : Prop := ∃ s, li = s ++ (nums n).drop i ∧ s.Perm ((nums n).take i) ∧ s.Pairwise (Lex κ)
def InsJ (κ : Int → Int) (n i j : Nat) (lj : List Int) : Prop :=
  ∃ u v, lj = u ++ (i : Int) :: (v ++ (nums n).drop (i + 1)) ∧ u.length = j ∧ (u ++ v).Perm ((nums n).take i) ∧ (u ++ v).Pairwise (Lex κ) ∧ ∀ y ∈ v, κ i < κ y
theorem Ins.start (κ : Int → Int) (n : Nat) : Ins κ n 1 (nums n) := by
  refine ⟨(nums n).take 1, (List.take_append_drop 1 _).symm, .refl _, ?_⟩
  have : ((nums n).take 1).length ≤ 1 := by simp [List.length_take]; omega
  match h : (nums n).take 1, this with
  | [], _ => exact .nil
  | [x], _ => exact List.pairwise_singleton _ _
theorem Ins.perm {κ : Int → Int} {n i : Nat} {li : List Int} (h : Ins κ n i li) : li.Perm (nums n) := by
  obtain ⟨s, rfl, h1, _⟩ := h
  have := h1.append_right ((nums n).drop i)
  rwa [List.take_append_drop] at this
theorem Ins.open {κ : Int → Int} {n i : Nat} {li : List Int} (h : Ins κ n i li) (hi : i < n) : InsJ κ n i i li := by
  obtain ⟨s, rfl, h1, h2⟩ := h
  refine ⟨s, [], by rw [nums_drop hi]; simp, ?_, by simpa using h1, by simpa using h2, by simp⟩
  rw [h1.length_eq, List.length_take, nums_len]; omega
theorem InsJ.perm {κ : Int → Int} {n i j : Nat} {lj : List Int} (h : InsJ κ n i j lj) (hi : i < n) : lj.Perm (nums n) := by
  obtain ⟨u, v, rfl, h0, h1, _, _⟩ := h
  have e : (nums n) = (nums n).take i ++ (i : Int) :: (nums n).drop (i + 1) := by rw [← nums_drop hi, List.take_append_drop]
  have a : (u ++ (i : Int) :: (v ++ (nums n).drop (i + 1))).Perm ((i : Int) :: ((u ++ v) ++ (nums n).drop (i + 1))) := by
    rw [List.append_assoc]; exact List.perm_middle
  have b := a.trans (((h1.append_right _).cons _).trans List.perm_middle.symm)
  exact b.trans (List.Perm.of_eq e.symm)
theorem perm_nums_len {n : Nat} {l : List Int} (h : l.Perm (nums n)) : l.length = n := by rw [h.length_eq, nums_len]
theorem perm_nums_mem {n : Nat} {l : List Int} (h : l.Perm (nums n)) {k : Nat} (hk : k < n) : 0 ≤ l.getD k 0 ∧ l.getD k 0 < n := by
  have hl := perm_nums_len h
  have : l.getD k 0 ∈ l := by simp [List.getD, show k < l.length by omega]
  exact mem_nums.1 (h.mem_iff.1 this)
theorem InsJ.le {κ : Int → Int} {n i j : Nat} {lj : List Int} (h : InsJ κ n i j lj) (hi : i < n) : j ≤ i := by
  obtain ⟨u, v, rfl, h0, h1, _, _⟩ := h
  have := h1.length_eq
  rw [List.length_take, nums_len, List.length_append] at this
  omega
theorem InsJ.swap {κ : Int → Int} {n i p : Nat} {lj : List Int} (h : InsJ κ n i (p + 1) lj) (hk : κ (lj.getD (p + 1) 0) < κ (lj.getD p 0)) : InsJ κ n i p (swp lj (p + 1) p) := by
  obtain ⟨u, v, rfl, h0, h1, h2, h3⟩ := h
  obtain ⟨u', y, rfl⟩ : ∃ u' y, u = u' ++ [y] := ⟨u.dropLast, u.getLast (by intro e; subst e; simp at h0), (List.dropLast_concat_getLast _).symm⟩
  have hp : u'.length = p := by simpa using h0
  subst hp
  have e0 : u' ++ [y] ++ (i : Int) :: (v ++ (nums n).drop (i + 1)) = u' ++ y :: (i : Int) :: (v ++ (nums n).drop (i + 1)) := by simp
  rw [e0] at hk ⊢
  have e1 : (u' ++ y :: (i : Int) :: (v ++ (nums n).drop (i + 1))).getD (u'.length + 1) 0 = (i : Int) := by simp [List.getD]
  have e2 : (u' ++ y :: (i : Int) :: (v ++ (nums n).drop (i + 1))).getD u'.length 0 = y := by simp [List.getD]
  rw [e1, e2] at hk
  rw [swp_at]
  refine ⟨u', y :: v, by simp, rfl, by simpa using h1, by simpa using h2, ?_⟩
  intro z hz
  rcases List.mem_cons.1 hz with rfl | hz
  · exact hk
  · exact h3 z hz
theorem InsJ.stop {κ : Int → Int} {n i j : Nat} {lj : List Int} (h : InsJ κ n i j lj) (hi : i < n) (hk : ∀ p, j = p + 1 → ¬ κ (lj.getD (p + 1) 0) < κ (lj.getD p 0)) : Ins κ n (i + 1) lj := by
  obtain ⟨u, v, rfl, h0, h1, h2, h3⟩ := h
  have hlow : ∀ y ∈ u, Lex κ y i := by
    intro y hy
    have hy2 := mem_nums_take (h1.mem_iff.1 (List.mem_append_left v hy))
    have hne : u ≠ [] := by intro e; subst e; simp at hy
    obtain ⟨u', z, rfl⟩ : ∃ u' z, u = u' ++ [z] := ⟨u.dropLast, u.getLast hne, (List.dropLast_concat_getLast _).symm⟩
    have hp : u'.length + 1 = j := by simpa using h0
    have hk' := hk u'.length hp.symm
    have e0 : u' ++ [z] ++ (i : Int) :: (v ++ (nums n).drop (i + 1)) = u' ++ z :: (i : Int) :: (v ++ (nums n).drop (i + 1)) := by simp
    rw [e0] at hk'
    have e1 : (u' ++ z :: (i : Int) :: (v ++ (nums n).drop (i + 1))).getD (u'.length + 1) 0 = (i : Int) := by simp [List.getD]
    have e2 : (u' ++ z :: (i : Int) :: (v ++ (nums n).drop (i + 1))).getD u'.length 0 = z := by simp [List.getD]
    rw [e1, e2] at hk'
    have hyz : κ y ≤ κ z := by
      rcases List.mem_append.1 hy with hy' | hy'
      · have hpw := (List.pairwise_append.1 (List.pairwise_append.1 h2).1).2.2 y hy' z (by simp)
        unfold Lex at hpw; omega
      · simp at hy'; subst hy'; exact Int.le_refl _
    unfold Lex
    omega
  refine ⟨u ++ (i : Int) :: v, by simp, ?_, ?_⟩
  · rw [nums_take hi]
    exact (List.perm_middle.trans (h1.cons _)).trans (List.perm_append_comm (l₁ := [(i : Int)]))
  · obtain ⟨a1, a2, a3⟩ := List.pairwise_append.1 h2
    refine List.pairwise_append.2 ⟨a1, List.pairwise_cons.2 ⟨fun y hy => .inl (h3 y hy), a2⟩, fun x hx y hy => ?_⟩
    rcases List.mem_cons.1 hy with rfl | hy
    · exact hlow x hx
    · exact a3 x hx y hy
theorem Ins.done {κ : Int → Int} {n i : Nat} {li : List Int} (h : Ins κ n i li) (hi : n ≤ i) : KP κ n li := by
  have hp := h.perm
  obtain ⟨s, rfl, h1, h2⟩ := h
  refine ⟨OrdP.of_perm hp.symm, ?_⟩
  rw [List.drop_of_length_le (by rw [nums_len]; exact hi), List.append_nil]
  exact h2
/-! by counting -/
def cnt (κ : Int → Int) (n : Nat) (i : Int) : Nat := (nums n).countP (fun j => decide (Lex κ j i))
def cntTo (κ : Int → Int) (n : Nat) (i : Int) (j : Nat) : Nat := ((nums n).take j).countP (fun j => decide (Lex κ j i))
theorem cntTo_zero (κ : Int → Int) (n : Nat) (i : Int) : cntTo κ n i 0 = 0 := by simp [cntTo]
theorem cntTo_succ (κ : Int → Int) {n j : Nat} (i : Int) (h : j < n) : cntTo κ n i (j + 1) = cntTo κ n i j + (if Lex κ j i then 1 else 0) := by
  unfold cntTo
  rw [nums_take h, List.countP_append]
  simp [List.countP_cons]
theorem cntTo_all (κ : Int → Int) (n : Nat) (i : Int) : cntTo κ n i n = cnt κ n i := by
  unfold cntTo cnt
  rw [List.take_of_length_le (by rw [nums_len]; exact Nat.le_refl _)]
theorem KP.pos {κ : Int → Int} {n : Nat} {q : List Int} (h : KP κ n q) {p : Nat} (hp : p < n) : cnt κ n (q.getD p 0) = p := by
  have hl : q.length = n := h.1.1
  unfold cnt
  rw [h.1.perm.countP_eq]
  have e : q = q.take p ++ q.getD p 0 :: q.drop (p + 1) := by
    conv => lhs; rw [← List.take_append_drop p q, List.drop_eq_getElem_cons (by omega)]
    simp [List.getD, show p < q.length by omega]
  have hw := h.2
  rw [e] at hw
  generalize q.getD p 0 = x at *
  obtain ⟨_, w2, w3⟩ := List.pairwise_append.1 hw
  obtain ⟨w4, _⟩ := List.pairwise_cons.1 w2
  conv => lhs; rw [e]
  rw [List.countP_append, List.countP_cons]
  have c1 : (q.take p).countP (fun j => decide (Lex κ j x)) = p := by
    rw [List.countP_eq_length.2 (fun y hy => by simpa using w3 y hy x (by simp)), List.length_take]; omega
  have c2 : (q.drop (p + 1)).countP (fun j => decide (Lex κ j x)) = 0 := by
    rw [List.countP_eq_zero]
    intro y hy
    have := w4 y hy
    simp only [decide_eq_true_eq]
    unfold Lex at *
    omega
  have c3 : decide (Lex κ x x) = false := by rw [decide_eq_false]; unfold Lex; omega
  rw [c1, c2, c3]; simp
theorem KP.cnt_lt {κ : Int → Int} {n : Nat} {q : List Int} (h : KP κ n q) {i : Nat} (hi : i < n) : cnt κ n i < n ∧ q.getD (cnt κ n i) 0 = i := by
  obtain ⟨p, hp, e⟩ := List.mem_iff_getElem.1 (h.1.2 i hi)
  have hl : q.length = n := h.1.1
  have e2 : q.getD p 0 = i := by simp [List.getD, hp, e]
  have := h.pos (show p < n by omega)
  rw [e2] at this
  rw [this]
  exact ⟨by omega, e2⟩
/-- the numbers below i, in their places -/
def placed (q : List Int) (i : Nat) : List Int := q.map fun x => if x < (i : Int) then x else 0
theorem placed_len (q : List Int) (i : Nat) : (placed q i).length = q.length := by simp [placed]
theorem placed_zero {κ : Int → Int} {n : Nat} {q : List Int} (h : KP κ n q) : placed q 0 = List.replicate n 0 := by
  have hl : q.length = n := h.1.1
  apply List.ext_getElem
  · simp [placed, hl]
  · intro k h1 h2
    have := (h.1.bd (List.getElem_mem (by rw [placed_len] at h1; exact h1))).1
    simp only [placed, List.getElem_map, List.getElem_replicate]
    rw [if_neg (by simp; exact this)]
theorem placed_all {κ : Int → Int} {n : Nat} {q : List Int} (h : KP κ n q) : placed q n = q := by
  apply List.ext_getElem
  · simp [placed]
  · intro k h1 h2
    have := (h.1.bd (List.getElem_mem h2)).2
    simp only [placed, List.getElem_map]
    rw [if_pos this]
theorem placed_set {κ : Int → Int} {n : Nat} {q : List Int} (h : KP κ n q) {i : Nat} (hi : i < n) : (placed q i).set (cnt κ n i) i = placed q (i + 1) := by
  have hl : q.length = n := h.1.1
  obtain ⟨c1, c2⟩ := h.cnt_lt hi
  apply List.ext_getElem
  · simp [placed]
  · intro k h1 h2
    rw [List.getElem_set]
    have hk : k < q.length := by rw [placed_len] at h2; exact h2
    simp only [placed, List.getElem_map]
    by_cases c : cnt κ n i = k
    · subst c
      have e : q[cnt κ n i] = i := by simpa [List.getD, hk] using c2
      rw [if_pos rfl, e, if_pos (by omega)]
    · rw [if_neg c]
      have hne : q[k] ≠ i := by
        intro e
        have := h.pos (show k < n by omega)
        rw [show q.getD k 0 = i by simp [List.getD, hk, e]] at this
        exact c this
      by_cases d : q[k] < (i : Int)
      · rw [if_pos d, if_pos (by omega)]
      · rw [if_neg d, if_neg (by omega)]
/-! an order, and back -/
def Bk (o : List Int) (n k : Nat) (b : List Int) : Prop := b.length = n ∧ ∀ j, j < k → b.getD (o.getD j 0).toNat 0 = j
theorem Bk.zero (o : List Int) (n : Nat) : Bk o n 0 (List.replicate n 0) := ⟨by simp, fun j h => by omega⟩
theorem ord_ne {n : Nat} {o : List Int} (h : OrdP n o) {j k : Nat} (hj : j < n) (hk : k < n) (hne : j ≠ k) : o.getD j 0 ≠ o.getD k 0 := by
  have hl := h.1
  have hn := List.pairwise_iff_getElem.1 (show o.Pairwise (· ≠ ·) from h.nodup)
  have ej : o.getD j 0 = o[j]'(by omega) := by simp [List.getD, show j < o.length by omega]
  have ek : o.getD k 0 = o[k]'(by omega) := by simp [List.getD, show k < o.length by omega]
  rw [ej, ek]
  rcases Nat.lt_or_gt_of_ne hne with c | c
  · exact hn j k (by omega) (by omega) c
  · exact (hn k j (by omega) (by omega) c).symm
theorem ord_bd {n : Nat} {o : List Int} (h : OrdP n o) {k : Nat} (hk : k < n) : 0 ≤ o.getD k 0 ∧ o.getD k 0 < n := perm_nums_mem h.perm.symm hk
theorem Bk.step {o : List Int} {n k : Nat} {b : List Int} (h : Bk o n k b) (ho : OrdP n o) (hk : k < n) : Bk o n (k + 1) (b.set (o.getD k 0).toNat k) := by
  refine ⟨by simp [h.1], fun j hj => ?_⟩
  have bk := ord_bd ho hk
  have hb := h.1
  by_cases c : j = k
  · subst c
    simp [List.getD, show (o[j]?.getD 0).toNat < b.length by simp only [List.getD] at bk; omega]
  · have bj := ord_bd ho (show j < n by omega)
    have := ord_ne ho (show j < n by omega) hk c
    have e := h.2 j (by omega)
    rw [← e]
    simp only [List.getD, List.getElem?_set]
    simp only [List.getD] at this bj bk
    rw [if_neg (by omega)]
theorem Bk.ord {o : List Int} {n : Nat} {b : List Int} (h : Bk o n n b) (ho : OrdP n o) : OrdP n b := by
  refine ⟨h.1, fun i hi => ?_⟩
  have bi := ord_bd ho hi
  have e := h.2 i hi
  rw [← e]
  have := h.1
  simp [List.getD, show (o[i]?.getD 0).toNat < b.length by simp only [List.getD] at bi; omega]
theorem ord_len (l : List Tk) (o : List Int) : (ord l o).length = o.length := by simp [ord]
theorem ord_get (l : List Tk) (o : List Int) {k : Nat} (hk : k < o.length) : get (ord l o) k = get l (o.getD k 0) := by
  simp [get, ord, List.getD, hk]
theorem Bk.back {l : List Tk} {o b : List Int} (h : Bk o l.length l.length b) (ho : OrdP l.length o) : RankM.ord (RankM.ord l o) b = l := by
  have hl := ho.1
  apply List.ext_getElem
  · rw [ord_len, h.1]
  · intro j h1 h2
    obtain ⟨k, hk, e⟩ := List.mem_iff_getElem.1 (ho.2 j h2)
    have e2 : o.getD k 0 = j := by simp [List.getD, hk, e]
    have e3 := h.2 k (by omega)
    rw [e2, Int.toNat_natCast] at e3
    have hb : j < b.length := by rw [h.1]; exact h2
    have e4 : b[j] = (k : Int) := by simpa [List.getD, hb] using e3
    have : (RankM.ord (RankM.ord l o) b)[j] = get (RankM.ord l o) b[j] := by simp [RankM.ord]
    rw [this, e4, ord_get l o hk, e2]
    simp [get, List.getD, h2]
/-! what is an order, as the program looks -/
theorem OrdP.of_nodup {n : Nat} {o : List Int} (h1 : o.length = n) (h2 : ∀ x ∈ o, 0 ≤ x ∧ x < n) (h3 : o.Nodup) : OrdP n o :=
  OrdP.of_perm (perm_of_all o (nums n) h3 (fun x hx => mem_nums.2 (h2 x hx)) (by rw [nums_len, h1]; exact Nat.le_refl _)).symm
theorem nodup_snoc {o : List Int} {k : Nat} (hk : k < o.length) (h : (o.take k).Nodup) (hx : o.getD k 0 ∉ o.take k) : (o.take (k + 1)).Nodup := by
  have e : o.take (k + 1) = o.take k ++ [o.getD k 0] := by rw [List.take_succ_eq_append_getElem hk]; simp [List.getD, hk]
  rw [e]
  refine List.nodup_append.2 ⟨h, by simp, ?_⟩
  intro a ha b hb
  have hb' : b = o.getD k 0 := by simpa using hb
  intro e
  rw [hb'] at e
  rw [e] at ha
  exact hx ha
theorem not_nodup {o : List Int} {k : Nat} (hk : k < o.length) (hx : o.getD k 0 ∈ o.take k) : ¬ o.Nodup := by
  intro h
  have e : o.take (k + 1) = o.take k ++ [o.getD k 0] := by rw [List.take_succ_eq_append_getElem hk]; simp [List.getD, hk]
  have h1 : (o.take (k + 1)).Nodup := h.sublist (List.take_sublist _ _)
  rw [e] at h1
  exact (List.nodup_append.1 h1).2.2 _ hx _ (by simp) rfl
/-! what is found, by filters -/
/-- may the task x go last, of those of R? -/
def Last (S : Int → Int) (l : List Tk) (R : List Int) (x : Int) : Prop := Rep S (ord l (R.filter (fun y => decide (y ≠ x)))) (get l x)
theorem filter_mid {u v : List Int} {x : Int} (h : (u ++ x :: v).Nodup) : (u ++ x :: v).filter (fun y => decide (y ≠ x)) = u ++ v := by
  obtain ⟨h1, h2, h3⟩ := List.nodup_append.1 h
  obtain ⟨h4, h5⟩ := List.nodup_cons.1 h2
  rw [List.filter_append, List.filter_cons]
  rw [if_neg (by simp)]
  congr 1
  · rw [List.filter_eq_self]
    intro a ha
    have := h3 a ha x (by simp)
    simpa using this
  · rw [List.filter_eq_self]
    intro a ha
    have : a ≠ x := fun e => h4 (e ▸ ha)
    simpa using this
theorem found_step {S : Int → Int} {l : List Tk} {u v : List Int} {x : Int} (hn : (u ++ x :: v).Nodup) (h1 : Last S l (u ++ x :: v) x) (h2 : ∀ y ∈ u, ¬ Last S l (u ++ x :: v) y) {r : Option (List Int)} (h : Found S l (u ++ v) r) : Found S l (u ++ x :: v) (r.map fun o => o ++ [x]) := by
  refine .step ?_ ?_ h
  · intro u' j v' e hl hr
    rw [e] at hn
    have hj : j ∈ u := by
      have e1 : (u ++ x :: v)[u'.length]? = some j := by rw [e]; simp
      rw [List.getElem?_append_left hl] at e1
      exact List.mem_of_getElem? e1
    refine h2 j hj ?_
    unfold Last
    rw [e, filter_mid hn]
    exact hr
  · have := h1
    unfold Last at this
    rwa [filter_mid hn] at this
theorem found_no {S : Int → Int} {l : List Tk} {R : List Int} (hn : R.Nodup) (hne : R ≠ []) (h : ∀ y ∈ R, ¬ Last S l R y) : Found S l R none := by
  refine .no hne ?_
  intro u j v e hr
  refine h j (by rw [e]; simp) ?_
  unfold Last
  rw [e] at hn
  rw [e, filter_mid hn]
  exact hr
end RankM
end Go.Proofs.Ytnbfadfhpegddaa
