/- Plain mathematics of play.work: what the queue holds, time by time. -/
import Derived.Test.YtgplaoojimpbaaaHpM
set_option linter.unusedVariables false
namespace Go.Proofs.Ytgplaoojimpbaaa
open SpanM SpanC PlayM TaskM SupM
open PlayM.Pl
namespace PlayC
/-- a job that waits, with its rank -/
def jy (P : Pl) (b : Nat × Nat) : Jb := ⟨b.1, b.2, P.cm b.1 b.2, 0, P.du b.1 b.2, (P.tk b.1).1, P.ky b.1 b.2⟩
/-- .. and what is left of it -/
noncomputable def jw (P : Pl) (u : Nat) (b : Nat × Nat) : Jb := ⟨b.1, b.2, P.cm b.1 b.2, 0, P.du b.1 b.2, P.Lf u b.1 b.2, P.ky b.1 b.2⟩
noncomputable def Fq (P : Pl) (u : Nat) (S : List (Nat × Nat)) (m : Nat) : List (Nat × Nat) := (S.take m).filter fun b => decide (0 < P.Lf u b.1 b.2)
/-- what the queue holds ahead of the time u, the first m jobs having come -/
structure Qs (P : Pl) (S : List (Nat × Nat)) (u m : Nat) (h : List Jb) : Prop where
  perm : h.Perm ((Fq P u S m).map (jw P u))
  heap : Heap h h.length
  rest : ∀ b ∈ S.drop m, P.Lf u b.1 b.2 = (P.tk b.1).1
  le : m ≤ S.length
theorem skip {P : Pl} (hP : P.Ok) {u t : Nat} (h : u ≤ t) (hn : ∀ x, u ≤ x → x < t → P.on x = false) : P.Lf t = P.Lf u ∧ P.outs t = P.outs u ∧ P.idles t = P.idles u := by
  induction t with
  | zero => rw [show u = 0 by omega]; exact ⟨rfl, rfl, rfl⟩
  | succ t ih =>
    by_cases e : u = t + 1
    · subst e; exact ⟨rfl, rfl, rfl⟩
    · obtain ⟨a1, a2, a3⟩ := ih (by omega) (fun x h1 h2 => hn x h1 (by omega))
      rcases cases1 hP (P.Lf t) t with ⟨o, _, c1, c2, c3⟩ | ⟨o, _⟩ | ⟨i, k, o, _⟩
      · refine ⟨?_, ?_, ?_⟩
        · show P.next (P.Lf t) t = _; rw [c1, a1]
        · show P.outs t ++ P.out1 (P.Lf t) t = _; rw [c2, a2, List.append_nil]
        · show P.idles t + P.idle1 (P.Lf t) t = _; rw [c3, a3, Int.add_zero]
      · rw [hn t (by omega) (by omega)] at o; simp at o
      · rw [hn t (by omega) (by omega)] at o; simp at o
theorem Qs.zero (P : Pl) (S : List (Nat × Nat)) : Qs P S 0 0 [] := ⟨by simp [Fq], heap_nil, fun b _ => rfl, Nat.zero_le _⟩
theorem Qs.skip {P : Pl} {S : List (Nat × Nat)} {u t m : Nat} {h : List Jb} (H : Qs P S u m h) (e : P.Lf t = P.Lf u) : Qs P S t m h := by
  have e1 : Fq P t S m = Fq P u S m := by unfold Fq; rw [e]
  have e2 : jw P t = jw P u := by unfold jw; rw [e]
  exact ⟨by rw [e1, e2]; exact H.perm, H.heap, fun b hb => by rw [e]; exact H.rest b hb, H.le⟩
/-- the jobs, in the order in which they come -/
structure Js (P : Pl) (T : Int) (S : List (Nat × Nat)) : Prop where
  ok : P.Ok
  perm : S.Perm (P.jobsL T)
  srt : ∀ i j, (hij : i ≤ j) → (hj : j < S.length) → P.cm (S[i]'(by omega)).1 (S[i]'(by omega)).2 ≤ P.cm S[j].1 S[j].2
theorem Js.mem {P : Pl} {T : Int} {S : List (Nat × Nat)} (J : Js P T S) {b : Nat × Nat} (h : b ∈ S) : b.1 < P.l.length ∧ P.cm b.1 b.2 < T := by
  have := J.perm.mem_iff.1 h
  exact (mem_jobsL J.ok).1 this
theorem take_next {S : List (Nat × Nat)} {m : Nat} (h : m < S.length) : S.take (m + 1) = S.take m ++ [S[m]] := List.take_succ_eq_append_getElem h
theorem Qs.push {P : Pl} {T : Int} {S : List (Nat × Nat)} {t m : Nat} {h h' : List Jb} (J : Js P T S) (H : Qs P S t m h) (hm : m < S.length) (hp : h'.Perm (jy P S[m] :: h)) (hh : Heap h' h'.length) : Qs P S t (m + 1) h' := by
  have hd : S.drop m = S[m] :: S.drop (m + 1) := List.drop_eq_getElem_cons hm
  have hl := H.rest S[m] (by rw [hd]; exact List.mem_cons_self)
  have ht := J.ok.at (J.mem (List.getElem_mem hm)).1
  have hpos : 0 < P.Lf t S[m].1 S[m].2 := by rw [hl]; exact by have := ht; unfold tok at this; omega
  have e1 : jw P t S[m] = jy P S[m] := by unfold jw jy; rw [hl]
  refine ⟨?_, hh, fun b hb => H.rest b (by rw [hd]; exact List.mem_cons_of_mem _ hb), by omega⟩
  have e2 : Fq P t S (m + 1) = Fq P t S m ++ [S[m]] := by
    unfold Fq
    rw [take_next hm, List.filter_append]
    congr 1
    simp [hpos]
  rw [e2, List.map_append, List.map_singleton, e1]
  refine hp.trans ?_
  exact ((H.perm.cons _)).trans (List.perm_append_singleton _ _).symm
/-- all that have come stand among the first m -/
def Come (P : Pl) (S : List (Nat × Nat)) (t m : Nat) : Prop := ∀ b ∈ S.drop m, (t : Int) < P.cm b.1 b.2
theorem Come.of {P : Pl} {T : Int} {S : List (Nat × Nat)} {t m : Nat} (J : Js P T S) (h : S.length ≤ m ∨ ∃ hm : m < S.length, (t : Int) < P.cm S[m].1 S[m].2) : Come P S t m := by
  intro b hb
  obtain ⟨i, hi, rfl⟩ := List.getElem_of_mem hb
  rw [List.length_drop] at hi
  rcases h with h | ⟨hm, h⟩
  · omega
  · have := J.srt m (m + i) (by omega) (by omega)
    rw [List.getElem_drop]
    omega
theorem mem_Fq {P : Pl} {T : Int} {S : List (Nat × Nat)} {t m : Nat} (J : Js P T S) (hc : Come P S t m) (ht : (t : Int) < T) {i k : Nat} (h : P.Pn (P.Lf t) t i k) : (i, k) ∈ Fq P t S m := by
  obtain ⟨h1, h2, h3⟩ := h
  have hs : (i, k) ∈ S := J.perm.mem_iff.2 ((mem_jobsL J.ok).2 ⟨h1, by omega⟩)
  rw [← List.take_append_drop m S] at hs
  rcases List.mem_append.1 hs with hs | hs
  · unfold Fq; rw [List.mem_filter]; exact ⟨hs, by simpa using h3⟩
  · have := hc _ hs; simp only at this; omega
theorem Fq_mem {P : Pl} {S : List (Nat × Nat)} {t m : Nat} {b : Nat × Nat} (h : b ∈ Fq P t S m) : b ∈ S ∧ 0 < P.Lf t b.1 b.2 := by
  unfold Fq at h
  rw [List.mem_filter] at h
  exact ⟨List.mem_of_mem_take h.1, by simpa using h.2⟩
/-- the first m have come -/
def Here (P : Pl) (S : List (Nat × Nat)) (t m : Nat) : Prop := ∀ b ∈ S.take m, P.cm b.1 b.2 ≤ t
theorem Here.zero (P : Pl) (S : List (Nat × Nat)) (t : Nat) : Here P S t 0 := fun b h => by simp at h
theorem Here.next {P : Pl} {S : List (Nat × Nat)} {t m : Nat} (h : Here P S t m) (hm : m < S.length) (hc : P.cm S[m].1 S[m].2 ≤ t) : Here P S t (m + 1) := by
  intro b hb
  rw [take_next hm] at hb
  rcases List.mem_append.1 hb with hb | hb
  · exact h b hb
  · simp at hb; rw [hb]; exact hc
theorem Here.later {P : Pl} {S : List (Nat × Nat)} {t t' m : Nat} (h : Here P S t m) (ht : t ≤ t') : Here P S t' m := fun b hb => by have := h b hb; omega
/-- nothing waits: nothing is worked at -/
theorem Qs.none {P : Pl} {T : Int} {S : List (Nat × Nat)} {t m : Nat} (J : Js P T S) (H : Qs P S t m []) (hc : Come P S t m) (ht : (t : Int) < T) (ho : P.on t = true) : P.Lf (t + 1) = P.Lf t ∧ P.outs (t + 1) = P.outs t ∧ P.idles (t + 1) = P.idles t + 1 := by
  have he : Fq P t S m = [] := by
    have := H.perm.length_eq
    simp at this
    exact List.length_eq_zero_iff.1 this.symm
  rcases cases1 J.ok (P.Lf t) t with ⟨o, _⟩ | ⟨o, _, _, c1, c2, c3⟩ | ⟨i, k, o, _, hb, _⟩
  · rw [ho] at o; simp at o
  · refine ⟨c1, ?_, ?_⟩
    · show P.outs t ++ P.out1 (P.Lf t) t = _; rw [c2, List.append_nil]
    · show P.idles t + P.idle1 (P.Lf t) t = _; rw [c3]
  · have := mem_Fq J hc ht hb.1
    rw [he] at this; simp at this
/-- what stands first is worked at -/
theorem Qs.best {P : Pl} {T : Int} {S : List (Nat × Nat)} {t m : Nat} {h : List Jb} (J : Js P T S) (H : Qs P S t m h) (hc : Come P S t m) (hh : Here P S t m) (ht : (t : Int) < T) (h0 : 0 < h.length) :
    ∃ i k, gt h 0 = jw P t (i, k) ∧ (i, k) ∈ Fq P t S m ∧ P.Best (P.Lf t) t i k := by
  have hg : gt h 0 ∈ h := by unfold gt; rw [getD_at h 0 h0]; exact List.getElem_mem h0
  obtain ⟨⟨i, k⟩, hb, e⟩ := List.mem_map.1 (H.perm.mem_iff.1 hg)
  refine ⟨i, k, e.symm, hb, ⟨(J.mem (Fq_mem hb).1).1, ?_, (Fq_mem hb).2⟩, fun j q hj => ?_⟩
  · unfold Fq at hb
    rw [List.mem_filter] at hb
    exact hh _ hb.1
  · have hm := List.mem_map_of_mem (f := jw P t) (mem_Fq J hc ht hj)
    have hm2 := H.perm.mem_iff.2 hm
    obtain ⟨x, hx, hx2⟩ := List.getElem_of_mem hm2
    have := H.heap.first x hx
    rw [← e] at this
    have e3 : gt h x = jw P t (j, q) := by unfold gt; rw [getD_at h x hx, hx2]
    rw [e3] at this
    unfold leJ ltJ jw at this
    unfold Pl.Bef
    simp only at this
    omega
theorem jobs_nodup (P : Pl) (T : Int) : (P.jobsL T).Nodup := by
  unfold jobsL
  rw [List.nodup_iff_pairwise_ne, List.pairwise_flatMap]
  refine ⟨fun i hi => ?_, ?_⟩
  · rw [List.pairwise_map]
    exact List.Pairwise.imp (S := fun a b => (i, a) ≠ (i, b)) (fun {a b} (h : a ≠ b) e => h (Prod.mk.inj e).2) List.nodup_range
  · refine List.Pairwise.imp (fun {a b} (h : a ≠ b) x hx y hy e => ?_) List.nodup_range
    obtain ⟨k1, _, rfl⟩ := List.mem_map.1 hx
    obtain ⟨k2, _, rfl⟩ := List.mem_map.1 hy
    simp at e
    exact h e.1
theorem Js.nodup {P : Pl} {T : Int} {S : List (Nat × Nat)} (J : Js P T S) : S.Nodup := J.perm.nodup_iff.2 (jobs_nodup P T)
/-- one less of what stands first -/
def dec (h : List Jb) : List Jb := h.set 0 { gt h 0 with f := (gt h 0).f - 1 }
theorem dec_heap {h : List Jb} {n : Nat} (H : Heap h n) : Heap (dec h) n := by
  intro i h0 h1
  have e : ∀ k, (gt (dec h) k).r = (gt h k).r ∧ (gt (dec h) k).t = (gt h k).t ∧ (gt (dec h) k).k = (gt h k).k := by
    intro k
    unfold dec gt
    by_cases hk : k = 0
    · subst hk
      by_cases hl : 0 < h.length
      · simp [List.getD, hl]
      · have : h = [] := List.length_eq_zero_iff.1 (by omega)
        subst this; simp
    · have : (0 : Nat) ≠ k := fun e => hk e.symm
      simp [List.getD, List.getElem?_set_ne this]
  have := H i h0 h1
  unfold leJ ltJ at *
  obtain ⟨a1, a2, a3⟩ := e i
  obtain ⟨b1, b2, b3⟩ := e ((i - 1) / 2)
  rw [a1, a2, a3, b1, b2, b3]
  exact this
/-- what is left behind the time t, of one that is worked at -/
theorem Qs.work {P : Pl} {T : Int} {S : List (Nat × Nat)} {t m i k : Nat} {h : List Jb} (J : Js P T S) (H : Qs P S t m h) (h0 : 0 < h.length) (hg : gt h 0 = jw P t (i, k)) (hf : (i, k) ∈ Fq P t S m) (hb : P.Best (P.Lf t) t i k) (ho : P.on t = true) :
    P.Lf (t + 1) = less (P.Lf t) (i, k) ∧ P.outs (t + 1) = P.outs t ++ (if P.Lf t i k = 1 then [((i : Int), (k : Int), P.cm i k, (t : Int) + 1)] else []) ∧ P.idles (t + 1) = P.idles t ∧
    (P.Lf t i k ≠ 1 → Qs P S (t + 1) m (dec h)) ∧ (P.Lf t i k = 1 → ∀ h' : List Jb, (gt (dec h) 0 :: h').Perm (dec h) → Heap h' h'.length → Qs P S (t + 1) m h') := by
  obtain ⟨hL, hO, hI⟩ : P.Lf (t + 1) = less (P.Lf t) (i, k) ∧ P.outs (t + 1) = P.outs t ++ (if P.Lf t i k = 1 then [((i : Int), (k : Int), P.cm i k, (t : Int) + 1)] else []) ∧ P.idles (t + 1) = P.idles t := by
    rcases cases1 J.ok (P.Lf t) t with ⟨o, _⟩ | ⟨o, _, hn, _⟩ | ⟨i', k', o, _, hb', c1, c2, c3⟩
    · rw [ho] at o; simp at o
    · exact absurd hb.1 (hn i k)
    · obtain ⟨rfl, rfl⟩ := hb'.one hb
      exact ⟨c1, by show P.outs t ++ P.out1 (P.Lf t) t = _; rw [c2], by show P.idles t + P.idle1 (P.Lf t) t = _; rw [c3, Int.add_zero]⟩
  have hnd : (Fq P t S m).Nodup := List.Pairwise.filter _ (List.Pairwise.take J.nodup)
  have hpe : (Fq P t S m).Perm ((i, k) :: (Fq P t S m).erase (i, k)) := List.perm_cons_erase hf
  have hni : ∀ b ∈ (Fq P t S m).erase (i, k), b ≠ (i, k) := fun b hb e => by subst e; exact (hnd.not_mem_erase) hb
  obtain ⟨top, tl, rfl⟩ : ∃ x r, h = x :: r := by cases h with | nil => simp at h0 | cons x r => exact ⟨x, r, rfl⟩
  have hg2 : top = jw P t (i, k) := hg
  have hsame : ∀ b : Nat × Nat, b ≠ (i, k) → P.Lf (t + 1) b.1 b.2 = P.Lf t b.1 b.2 := fun b hb => by
    rw [hL]; exact less_other _ (fun e => hb (Prod.ext e.1 e.2))
  have hat : P.Lf (t + 1) i k = P.Lf t i k - 1 := by rw [hL]; exact less_at _ _ _
  have htl : tl.Perm (((Fq P t S m).erase (i, k)).map (jw P t)) := by
    have h1 := H.perm.trans (hpe.map (jw P t))
    rw [List.map_cons, ← hg2] at h1
    exact h1.cons_inv
  have hmap : ((Fq P t S m).erase (i, k)).map (jw P t) = ((Fq P t S m).erase (i, k)).map (jw P (t + 1)) := by
    refine List.map_congr_left fun b hb => ?_
    unfold jw
    rw [hsame b (hni b hb)]
  have hrest : ∀ b ∈ S.drop m, P.Lf (t + 1) b.1 b.2 = (P.tk b.1).1 := fun b hb' => by
    rw [hsame b ?_]
    · exact H.rest b hb'
    · rintro rfl
      have h1 : (i, k) ∈ S.take m := by unfold Fq at hf; exact (List.mem_filter.1 hf).1
      have := J.nodup
      rw [← List.take_append_drop m S, List.nodup_append] at this
      exact this.2.2 _ h1 _ hb' rfl
  have hdec : dec (top :: tl) = { top with f := top.f - 1 } :: tl := rfl
  refine ⟨hL, hO, hI, fun h1 => ?_, fun h1 h' hp hh => ?_⟩
  · have hpos := (Fq_mem hf).2
    simp only at hpos
    have e1 : Fq P (t + 1) S m = Fq P t S m := by
      unfold Fq
      refine List.filter_congr fun b _ => ?_
      by_cases e : b = (i, k)
      · subst e
        simp only [hat]
        rw [decide_eq_true (by omega), decide_eq_true hpos]
      · rw [hsame b e]
    refine ⟨?_, ?_, hrest, H.le⟩
    · rw [e1, hdec]
      refine (List.Perm.trans ?_ (hpe.map (jw P (t + 1))).symm)
      rw [List.map_cons, ← hmap]
      have e2 : jw P (t + 1) (i, k) = { top with f := top.f - 1 } := by rw [hg2]; unfold jw; simp only [hat]
      rw [e2]
      exact htl.cons _
    · have := dec_heap H.heap
      rw [show (dec (top :: tl)).length = (top :: tl).length by simp [dec]]
      exact this
  · have e1 : (Fq P (t + 1) S m).Perm ((Fq P t S m).erase (i, k)) := by
      rw [List.perm_ext_iff_of_nodup (show (Fq P (t + 1) S m).Nodup from List.Pairwise.filter _ (List.Pairwise.take J.nodup)) (hnd.erase _)]
      intro b
      rw [hnd.mem_erase_iff]
      unfold Fq
      rw [List.mem_filter, List.mem_filter]
      by_cases e : b = (i, k)
      · subst e
        simp only [hat, h1]
        simp
      · rw [hsame b e]
        simp [e]
    refine ⟨?_, hh, hrest, H.le⟩
    have h2 : h'.Perm tl := by
      rw [hdec] at hp
      exact hp.cons_inv
    refine (h2.trans htl).trans ?_
    rw [hmap]
    exact (e1.map _).symm
end PlayC
end Go.Proofs.Ytgplaoojimpbaaa
