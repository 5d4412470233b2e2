/- Plain mathematics: what a want has. -/
import Derived.Test.YtgehdpohiphcpaaTabM3
set_option linter.unusedVariables false
namespace Go.Proofs.Ytgehdpohiphcpaa
namespace TabM
open SpanM
/-- the time of a want in one of its rounds lies in one of its windows -/
theorem want_time {frame r t : Int} {x : Wnt} (hf : 1 ≤ frame) (hx : fitP frame x) (hr : 0 ≤ r) (ht : 0 ≤ t) (ht2 : t < x.2.2.1) : ∃ y ∈ winsOf frame x, inW y ((r * x.2.2.2 + x.2.1 + t) % frame) := by
  obtain ⟨⟨a1, a2, a3⟩, ⟨b1, b2⟩, ⟨c1, c2⟩, d1, d2⟩ := hx
  have hq := quot_mul a3
  obtain ⟨q, hqq⟩ : ∃ q, frame / x.2.2.2 = q := ⟨_, rfl⟩
  rw [hqq] at hq
  have hq0 : 0 < q := by
    rcases Int.lt_or_le 0 q with h | h
    · exact h
    · have : x.2.2.2 * q ≤ 0 := Int.mul_nonpos_of_nonneg_of_nonpos (by omega) h
      omega
  have m1 := Int.emod_nonneg r (show q ≠ 0 by omega)
  have m2 := Int.emod_lt_of_pos r hq0
  have m3 := Int.emod_add_mul_ediv r q
  have hmul : r * x.2.2.2 = r % q * x.2.2.2 + frame * (r / q) := by
    have e : r * x.2.2.2 = (r % q + q * (r / q)) * x.2.2.2 := by rw [m3]
    rw [e, Int.add_mul, ← hq, Int.mul_assoc, Int.mul_comm (r / q), ← Int.mul_assoc, Int.mul_comm q]
  have p0 : 0 ≤ r % q * x.2.2.2 := Int.mul_nonneg m1 (by omega)
  have p1 : (r % q + 1) * x.2.2.2 ≤ q * x.2.2.2 := Int.mul_le_mul_of_nonneg_right (by omega) (by omega)
  rw [Int.add_mul, Int.mul_comm q, hq] at p1
  have hmod : (r * x.2.2.2 + x.2.1 + t) % frame = r % q * x.2.2.2 + x.2.1 + t := by
    rw [hmul, show r % q * x.2.2.2 + frame * (r / q) + x.2.1 + t = (r % q * x.2.2.2 + x.2.1 + t) + frame * (r / q) by omega, Int.add_mul_emod_self_left, Int.emod_eq_of_lt (by omega) (by omega)]
  refine ⟨_, winsOf_mem (r % q).toNat (by rw [hqq]; omega), ?_⟩
  rw [hmod]
  unfold inW
  simp only
  rw [Int.toNat_of_nonneg m1]
  omega
theorem want_own {frame r t : Int} {l : List Wnt} {ys : List Win} {x : Wnt} (hf : 1 ≤ frame) (hxl : x ∈ l) (hx : fitP frame x) (hp : ys.Perm (wins frame l)) (hg : Apart ys) (hr : 0 ≤ r) (ht : 0 ≤ t) (ht2 : t < x.2.2.1) : wown ys ((r * x.2.2.2 + x.2.1 + t) % frame) = x.1 := by
  obtain ⟨y, hy, hin⟩ := want_time hf hx hr ht ht2
  have hm : y ∈ ys := hp.mem_iff.2 (List.mem_flatMap.2 ⟨x, hxl, hy⟩)
  rw [wown_in hg hm hin]
  obtain ⟨k, _, rfl⟩ := mem_winsOf hy
  rfl
theorem want_none {frame r t : Int} {p q : List Wnt} {ys : List Win} {x : Wnt} (hf : 1 ≤ frame) (hx : fitP frame x) (hp : ys.Perm (wins frame (p ++ q))) (hA : Apart (wins frame (p ++ x :: q))) (hr : 0 ≤ r) (ht : 0 ≤ t) (ht2 : t < x.2.2.1) : wown ys ((r * x.2.2.2 + x.2.1 + t) % frame) = -1 := by
  obtain ⟨y, hy, hin⟩ := want_time hf hx hr ht ht2
  refine wown_none fun z hz hin2 => ?_
  have hz' : z ∈ wins frame (p ++ q) := hp.mem_iff.1 hz
  have e : wins frame (p ++ x :: q) = wins frame p ++ (winsOf frame x ++ wins frame q) := by rw [wins_append]; simp [wins]
  rw [e] at hA
  obtain ⟨_, h2, h3⟩ := List.pairwise_append.1 hA
  obtain ⟨_, _, h4⟩ := List.pairwise_append.1 h2
  rw [wins_append] at hz'
  unfold inW at hin hin2
  rcases List.mem_append.1 hz' with hz' | hz'
  · have := h3 z hz' y (List.mem_append.2 (.inl hy)); omega
  · have := h4 y hy z hz'; omega
theorem wins_perm {frame : Int} {l m : List Wnt} (h : l.Perm m) : (wins frame l).Perm (wins frame m) := by
  unfold wins
  exact h.flatMap_right _
theorem cntW_perm {frame : Int} {l m : List Wnt} (h : l.Perm m) : cntW frame l = cntW frame m := by
  induction h with
  | nil => rfl
  | cons x _ ih => simp only [cntW, ih]
  | swap x y l => simp only [cntW]; omega
  | trans _ _ h1 h2 => rw [h1, h2]
theorem wchk_perm {frame : Int} {l m : List Wnt} (h : l.Perm m) (hk : wchk frame l = 0) : wchk frame m = 0 := by
  obtain ⟨h1, h2, h3, h4, h5⟩ := wchk_zero hk
  exact wchk_of h1 h2 (by rw [← h.length_eq]; exact h3) (fun x hx => h4 x (h.mem_iff.2 hx)) (by rw [← cntW_perm h]; exact h5)
theorem wchk_less {frame : Int} {p q : List Wnt} {x : Wnt} (hk : wchk frame (p ++ x :: q) = 0) : wchk frame (p ++ q) = 0 := by
  obtain ⟨h1, h2, h3, h4, h5⟩ := wchk_zero hk
  have hx := h4 x (by simp)
  have := quot_bd (frame := frame) (e := x.2.2.2) (by omega) hx.1.1
  refine wchk_of h1 h2 (by simp at h3 ⊢; omega) (fun y hy => h4 y (by rcases List.mem_append.1 hy with hy | hy <;> simp [hy])) ?_
  rw [cntW_append, cntW] at h5
  rw [cntW_append]
  omega
theorem apart_less {frame : Int} {p q : List Wnt} {x : Wnt} (h : Apart (wins frame (p ++ x :: q))) : Apart (wins frame (p ++ q)) := by
  have e : wins frame (p ++ x :: q) = wins frame p ++ (winsOf frame x ++ wins frame q) := by rw [wins_append]; simp [wins]
  rw [e] at h
  rw [wins_append]
  exact List.Pairwise.sublist (List.Sublist.append (List.Sublist.refl _) (List.sublist_append_right _ _)) h
end TabM
end Go.Proofs.Ytgehdpohiphcpaa
