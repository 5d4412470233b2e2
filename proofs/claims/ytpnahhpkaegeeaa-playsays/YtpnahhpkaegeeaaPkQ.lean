/- Several texts, one behind the other: WkM WkA WkB WkD. -/
import Derived.Test.YtpnahhpkaegeeaaPkO
import Derived.Test.YtpnahhpkaegeeaaPkL
import Derived.Test.YtpnahhpkaegeeaaPkP
import Derived.Test.YtpnahhpkaegeeaaPkA
import Derived.Test.YtpnahhpkaegeeaaPkM
/- Plain mathematics of play.work: what the queue holds, time by time. -/
set_option linter.unusedVariables false
namespace Go.Proofs.Ytpnahhpkaegeeaa
open SpanM SpanC PlayM TaskM SupM
open PlayM.Pl
namespace PlayC
/-- a job that waits, with its rank -/
def jy (P : Pl) (b : Nat × Nat) : Jb := ⟨b.1, b.2, P.cm b.1 b.2, 0, P.du b.1 b.2, (P.tk b.1).1, P.ky b.1 b.2⟩
/-- .. and what is left of it -/
noncomputable def jw (P : Pl) (u : Nat) (b : Nat × Nat) : Jb := ⟨b.1, b.2, P.cm b.1 b.2, 0, P.du b.1 b.2, P.Lf u b.1 b.2, P.ky b.1 b.2⟩
noncomputable def Fq (P : Pl) (u : Nat) (S : List (Nat × Nat)) (m : Nat) : List (Nat × Nat) := (S.take m).filter fun b => decide (0 < P.Lf u b.1 b.2)
/-- what the queue holds ahead of the time u, the first m jobs having come -/
structure Qs (P : Pl) (S : List (Nat × Nat)) (u m : Nat) (h : List Jb) : Prop where
  perm : h.Perm ((Fq P u S m).map (jw P u))
  heap : Heap h h.length
  rest : ∀ b ∈ S.drop m, P.Lf u b.1 b.2 = (P.tk b.1).1
  le : m ≤ S.length
theorem skip {P : Pl} (hP : P.Ok) {u t : Nat} (h : u ≤ t) (hn : ∀ x, u ≤ x → x < t → P.on x = false) : P.Lf t = P.Lf u ∧ P.outs t = P.outs u ∧ P.idles t = P.idles u := by
  induction t with
  | zero => rw [show u = 0 by omega]; exact ⟨rfl, rfl, rfl⟩
  | succ t ih =>
    by_cases e : u = t + 1
    · subst e; exact ⟨rfl, rfl, rfl⟩
    · obtain ⟨a1, a2, a3⟩ := ih (by omega) (fun x h1 h2 => hn x h1 (by omega))
      rcases cases1 hP (P.Lf t) t with ⟨o, _, c1, c2, c3⟩ | ⟨o, _⟩ | ⟨i, k, o, _⟩
      · refine ⟨?_, ?_, ?_⟩
        · show P.next (P.Lf t) t = _; rw [c1, a1]
        · show P.outs t ++ P.out1 (P.Lf t) t = _; rw [c2, a2, List.append_nil]
        · show P.idles t + P.idle1 (P.Lf t) t = _; rw [c3, a3, Int.add_zero]
      · rw [hn t (by omega) (by omega)] at o; simp at o
      · rw [hn t (by omega) (by omega)] at o; simp at o
theorem Qs.zero (P : Pl) (S : List (Nat × Nat)) : Qs P S 0 0 [] := ⟨by simp [Fq], heap_nil, fun b _ => rfl, Nat.zero_le _⟩
theorem Qs.skip {P : Pl} {S : List (Nat × Nat)} {u t m : Nat} {h : List Jb} (H : Qs P S u m h) (e : P.Lf t = P.Lf u) : Qs P S t m h := by
  have e1 : Fq P t S m = Fq P u S m := by unfold Fq; rw [e]
  have e2 : jw P t = jw P u := by unfold jw; rw [e]
  exact ⟨by rw [e1, e2]; exact H.perm, H.heap, fun b hb => by rw [e]; exact H.rest b hb, H.le⟩
/-- the jobs, in the order in which they come -/
structure Js (P : Pl) (T : Int) (S : List (Nat × Nat)) : Prop where
  ok : P.Ok
  perm : S.Perm (P.jobsL T)
  srt : ∀ i j, (hij : i ≤ j) → (hj : j < S.length) → P.cm (S[i]'(by omega)).1 (S[i]'(by omega)).2 ≤ P.cm S[j].1 S[j].2
theorem Js.mem {P : Pl} {T : Int} {S : List (Nat × Nat)} (J : Js P T S) {b : Nat × Nat} (h : b ∈ S) : b.1 < P.l.length ∧ P.cm b.1 b.2 < T := by
  have := J.perm.mem_iff.1 h
  exact (mem_jobsL J.ok).1 this
theorem take_next {S : List (Nat × Nat)} {m : Nat} (h : m < S.length) : S.take (m + 1) = S.take m ++ [S[m]] := List.take_succ_eq_append_getElem h
theorem Qs.push {P : Pl} {T : Int} {S : List (Nat × Nat)} {t m : Nat} {h h' : List Jb} (J : Js P T S) (H : Qs P S t m h) (hm : m < S.length) (hp : h'.Perm (jy P S[m] :: h)) (hh : Heap h' h'.length) : Qs P S t (m + 1) h' := by
  have hd : S.drop m = S[m] :: S.drop (m + 1) := List.drop_eq_getElem_cons hm
  have hl := H.rest S[m] (by rw [hd]; exact List.mem_cons_self)
  have ht := J.ok.at (J.mem (List.getElem_mem hm)).1
  have hpos : 0 < P.Lf t S[m].1 S[m].2 := by rw [hl]; exact by have := ht; unfold tok at this; omega
  have e1 : jw P t S[m] = jy P S[m] := by unfold jw jy; rw [hl]
  refine ⟨?_, hh, fun b hb => H.rest b (by rw [hd]; exact List.mem_cons_of_mem _ hb), by omega⟩
  have e2 : Fq P t S (m + 1) = Fq P t S m ++ [S[m]] := by
    unfold Fq
    rw [take_next hm, List.filter_append]
    congr 1
    simp [hpos]
  rw [e2, List.map_append, List.map_singleton, e1]
  refine hp.trans ?_
  exact ((H.perm.cons _)).trans (List.perm_append_singleton _ _).symm
/-- all that have come stand among the first m -/
def Come (P : Pl) (S : List (Nat × Nat)) (t m : Nat) : Prop := ∀ b ∈ S.drop m, (t : Int) < P.cm b.1 b.2
theorem Come.of {P : Pl} {T : Int} {S : List (Nat × Nat)} {t m : Nat} (J : Js P T S) (h : S.length ≤ m ∨ ∃ hm : m < S.length, (t : Int) < P.cm S[m].1 S[m].2) : Come P S t m := by
  intro b hb
  obtain ⟨i, hi, rfl⟩ := List.getElem_of_mem hb
  rw [List.length_drop] at hi
  rcases h with h | ⟨hm, h⟩
  · omega
  · have := J.srt m (m + i) (by omega) (by omega)
    rw [List.getElem_drop]
    omega
theorem mem_Fq {P : Pl} {T : Int} {S : List (Nat × Nat)} {t m : Nat} (J : Js P T S) (hc : Come P S t m) (ht : (t : Int) < T) {i k : Nat} (h : P.Pn (P.Lf t) t i k) : (i, k) ∈ Fq P t S m := by
  obtain ⟨h1, h2, h3⟩ := h
  have hs : (i, k) ∈ S := J.perm.mem_iff.2 ((mem_jobsL J.ok).2 ⟨h1, by omega⟩)
  rw [← List.take_append_drop m S] at hs
  rcases List.mem_append.1 hs with hs | hs
  · unfold Fq; rw [List.mem_filter]; exact ⟨hs, by simpa using h3⟩
  · have := hc _ hs; simp only at this; omega
theorem Fq_mem {P : Pl} {S : List (Nat × Nat)} {t m : Nat} {b : Nat × Nat} (h : b ∈ Fq P t S m) : b ∈ S ∧ 0 < P.Lf t b.1 b.2 := by
  unfold Fq at h
  rw [List.mem_filter] at h
  exact ⟨List.mem_of_mem_take h.1, by simpa using h.2⟩
/-- the first m have come -/
def Here (P : Pl) (S : List (Nat × Nat)) (t m : Nat) : Prop := ∀ b ∈ S.take m, P.cm b.1 b.2 ≤ t
theorem Here.zero (P : Pl) (S : List (Nat × Nat)) (t : Nat) : Here P S t 0 := fun b h => by simp at h
theorem Here.next {P : Pl} {S : List (Nat × Nat)} {t m : Nat} (h : Here P S t m) (hm : m < S.length) (hc : P.cm S[m].1 S[m].2 ≤ t) : Here P S t (m + 1) := by
  intro b hb
  rw [take_next hm] at hb
  rcases List.mem_append.1 hb with hb | hb
  · exact h b hb
  · simp at hb; rw [hb]; exact hc
theorem Here.later {P : Pl} {S : List (Nat × Nat)} {t t' m : Nat} (h : Here P S t m) (ht : t ≤ t') : Here P S t' m := fun b hb => by have := h b hb; omega
/-- nothing waits: nothing is worked at -/
theorem Qs.none {P : Pl} {T : Int} {S : List (Nat × Nat)} {t m : Nat} (J : Js P T S) (H : Qs P S t m []) (hc : Come P S t m) (ht : (t : Int) < T) (ho : P.on t = true) : P.Lf (t + 1) = P.Lf t ∧ P.outs (t + 1) = P.outs t ∧ P.idles (t + 1) = P.idles t + 1 := by
  have he : Fq P t S m = [] := by
    have := H.perm.length_eq
    simp at this
    exact List.length_eq_zero_iff.1 this.symm
  rcases cases1 J.ok (P.Lf t) t with ⟨o, _⟩ | ⟨o, _, _, c1, c2, c3⟩ | ⟨i, k, o, _, hb, _⟩
  · rw [ho] at o; simp at o
  · refine ⟨c1, ?_, ?_⟩
    · show P.outs t ++ P.out1 (P.Lf t) t = _; rw [c2, List.append_nil]
    · show P.idles t + P.idle1 (P.Lf t) t = _; rw [c3]
  · have := mem_Fq J hc ht hb.1
    rw [he] at this; simp at this
/-- what stands first is worked at -/
theorem Qs.best {P : Pl} {T : Int} {S : List (Nat × Nat)} {t m : Nat} {h : List Jb} (J : Js P T S) (H : Qs P S t m h) (hc : Come P S t m) (hh : Here P S t m) (ht : (t : Int) < T) (h0 : 0 < h.length) :
    ∃ i k, gt h 0 = jw P t (i, k) ∧ (i, k) ∈ Fq P t S m ∧ P.Best (P.Lf t) t i k := by
  have hg : gt h 0 ∈ h := by unfold gt; rw [getD_at h 0 h0]; exact List.getElem_mem h0
  obtain ⟨⟨i, k⟩, hb, e⟩ := List.mem_map.1 (H.perm.mem_iff.1 hg)
  refine ⟨i, k, e.symm, hb, ⟨(J.mem (Fq_mem hb).1).1, ?_, (Fq_mem hb).2⟩, fun j q hj => ?_⟩
  · unfold Fq at hb
    rw [List.mem_filter] at hb
    exact hh _ hb.1
  · have hm := List.mem_map_of_mem (f := jw P t) (mem_Fq J hc ht hj)
    have hm2 := H.perm.mem_iff.2 hm
    obtain ⟨x, hx, hx2⟩ := List.getElem_of_mem hm2
    have := H.heap.first x hx
    rw [← e] at this
    have e3 : gt h x = jw P t (j, q) := by unfold gt; rw [getD_at h x hx, hx2]
    rw [e3] at this
    unfold leJ ltJ jw at this
    unfold Pl.Bef
    simp only at this
    omega
theorem jobs_nodup (P : Pl) (T : Int) : (P.jobsL T).Nodup := by
  unfold jobsL
  rw [List.nodup_iff_pairwise_ne, List.pairwise_flatMap]
  refine ⟨fun i hi => ?_, ?_⟩
  · rw [List.pairwise_map]
    exact List.Pairwise.imp (S := fun a b => (i, a) ≠ (i, b)) (fun {a b} (h : a ≠ b) e => h (Prod.mk.inj e).2) List.nodup_range
  · refine List.Pairwise.imp (fun {a b} (h : a ≠ b) x hx y hy e => ?_) List.nodup_range
    obtain ⟨k1, _, rfl⟩ := List.mem_map.1 hx
    obtain ⟨k2, _, rfl⟩ := List.mem_map.1 hy
    simp at e
    exact h e.1
theorem Js.nodup {P : Pl} {T : Int} {S : List (Nat × Nat)} (J : Js P T S) : S.Nodup := J.perm.nodup_iff.2 (jobs_nodup P T)
/-- one less of what stands first -/
def dec (h : List Jb) : List Jb := h.set 0 { gt h 0 with f := (gt h 0).f - 1 }
theorem dec_heap {h : List Jb} {n : Nat} (H : Heap h n) : Heap (dec h) n := by
  intro i h0 h1
  have e : ∀ k, (gt (dec h) k).r = (gt h k).r ∧ (gt (dec h) k).t = (gt h k).t ∧ (gt (dec h) k).k = (gt h k).k := by
    intro k
    unfold dec gt
    by_cases hk : k = 0
    · subst hk
      by_cases hl : 0 < h.length
      · simp [List.getD, hl]
      · have : h = [] := List.length_eq_zero_iff.1 (by omega)
        subst this; simp
    · have : (0 : Nat) ≠ k := fun e => hk e.symm
      simp [List.getD, List.getElem?_set_ne this]
  have := H i h0 h1
  unfold leJ ltJ at *
  obtain ⟨a1, a2, a3⟩ := e i
  obtain ⟨b1, b2, b3⟩ := e ((i - 1) / 2)
  rw [a1, a2, a3, b1, b2, b3]
  exact this
/-- what is left behind the time t, of one that is worked at -/
theorem Qs.work {P : Pl} {T : Int} {S : List (Nat × Nat)} {t m i k : Nat} {h : List Jb} (J : Js P T S) (H : Qs P S t m h) (h0 : 0 < h.length) (hg : gt h 0 = jw P t (i, k)) (hf : (i, k) ∈ Fq P t S m) (hb : P.Best (P.Lf t) t i k) (ho : P.on t = true) :
    P.Lf (t + 1) = less (P.Lf t) (i, k) ∧ P.outs (t + 1) = P.outs t ++ (if P.Lf t i k = 1 then [((i : Int), (k : Int), P.cm i k, (t : Int) + 1)] else []) ∧ P.idles (t + 1) = P.idles t ∧
    (P.Lf t i k ≠ 1 → Qs P S (t + 1) m (dec h)) ∧ (P.Lf t i k = 1 → ∀ h' : List Jb, (gt (dec h) 0 :: h').Perm (dec h) → Heap h' h'.length → Qs P S (t + 1) m h') := by
  obtain ⟨hL, hO, hI⟩ : P.Lf (t + 1) = less (P.Lf t) (i, k) ∧ P.outs (t + 1) = P.outs t ++ (if P.Lf t i k = 1 then [((i : Int), (k : Int), P.cm i k, (t : Int) + 1)] else []) ∧ P.idles (t + 1) = P.idles t := by
    rcases cases1 J.ok (P.Lf t) t with ⟨o, _⟩ | ⟨o, _, hn, _⟩ | ⟨i', k', o, _, hb', c1, c2, c3⟩
    · rw [ho] at o; simp at o
    · exact absurd hb.1 (hn i k)
    · obtain ⟨rfl, rfl⟩ := hb'.one hb
      exact ⟨c1, by show P.outs t ++ P.out1 (P.Lf t) t = _; rw [c2], by show P.idles t + P.idle1 (P.Lf t) t = _; rw [c3, Int.add_zero]⟩
  have hnd : (Fq P t S m).Nodup := List.Pairwise.filter _ (List.Pairwise.take J.nodup)
  have hpe : (Fq P t S m).Perm ((i, k) :: (Fq P t S m).erase (i, k)) := List.perm_cons_erase hf
  have hni : ∀ b ∈ (Fq P t S m).erase (i, k), b ≠ (i, k) := fun b hb e => by subst e; exact (hnd.not_mem_erase) hb
  obtain ⟨top, tl, rfl⟩ : ∃ x r, h = x :: r := by cases h with | nil => simp at h0 | cons x r => exact ⟨x, r, rfl⟩
  have hg2 : top = jw P t (i, k) := hg
  have hsame : ∀ b : Nat × Nat, b ≠ (i, k) → P.Lf (t + 1) b.1 b.2 = P.Lf t b.1 b.2 := fun b hb => by
    rw [hL]; exact less_other _ (fun e => hb (Prod.ext e.1 e.2))
  have hat : P.Lf (t + 1) i k = P.Lf t i k - 1 := by rw [hL]; exact less_at _ _ _
  have htl : tl.Perm (((Fq P t S m).erase (i, k)).map (jw P t)) := by
    have h1 := H.perm.trans (hpe.map (jw P t))
    rw [List.map_cons, ← hg2] at h1
    exact h1.cons_inv
  have hmap : ((Fq P t S m).erase (i, k)).map (jw P t) = ((Fq P t S m).erase (i, k)).map (jw P (t + 1)) := by
    refine List.map_congr_left fun b hb => ?_
    unfold jw
    rw [hsame b (hni b hb)]
  have hrest : ∀ b ∈ S.drop m, P.Lf (t + 1) b.1 b.2 = (P.tk b.1).1 := fun b hb' => by
    rw [hsame b ?_]
    · exact H.rest b hb'
    · rintro rfl
      have h1 : (i, k) ∈ S.take m := by unfold Fq at hf; exact (List.mem_filter.1 hf).1
      have := J.nodup
      rw [← List.take_append_drop m S, List.nodup_append] at this
      exact this.2.2 _ h1 _ hb' rfl
  have hdec : dec (top :: tl) = { top with f := top.f - 1 } :: tl := rfl
  refine ⟨hL, hO, hI, fun h1 => ?_, fun h1 h' hp hh => ?_⟩
  · have hpos := (Fq_mem hf).2
    simp only at hpos
    have e1 : Fq P (t + 1) S m = Fq P t S m := by
      unfold Fq
      refine List.filter_congr fun b _ => ?_
      by_cases e : b = (i, k)
      · subst e
        simp only [hat]
        rw [decide_eq_true (by omega), decide_eq_true hpos]
      · rw [hsame b e]
    refine ⟨?_, ?_, hrest, H.le⟩
    · rw [e1, hdec]
      refine (List.Perm.trans ?_ (hpe.map (jw P (t + 1))).symm)
      rw [List.map_cons, ← hmap]
      have e2 : jw P (t + 1) (i, k) = { top with f := top.f - 1 } := by rw [hg2]; unfold jw; simp only [hat]
      rw [e2]
      exact htl.cons _
    · have := dec_heap H.heap
      rw [show (dec (top :: tl)).length = (top :: tl).length by simp [dec]]
      exact this
  · have e1 : (Fq P (t + 1) S m).Perm ((Fq P t S m).erase (i, k)) := by
      rw [List.perm_ext_iff_of_nodup (show (Fq P (t + 1) S m).Nodup from List.Pairwise.filter _ (List.Pairwise.take J.nodup)) (hnd.erase _)]
      intro b
      rw [hnd.mem_erase_iff]
      unfold Fq
      rw [List.mem_filter, List.mem_filter]
      by_cases e : b = (i, k)
      · subst e
        simp only [hat, h1]
        simp
      · rw [hsame b e]
        simp [e]
    refine ⟨?_, hh, hrest, H.le⟩
    have h2 : h'.Perm tl := by
      rw [hdec] at hp
      exact hp.cons_inv
    refine (h2.trans htl).trans ?_
    rw [hmap]
    exact (e1.map _).symm
end PlayC
end Go.Proofs.Ytpnahhpkaegeeaa

/- Contracts: rankByDue. -/
set_option linter.unusedVariables false
namespace Go.Proofs.Ytpnahhpkaegeeaa
open Go.RowKit hiding tok
open Go.Shelf Go.Sort
open SpanM SpanC PlayM
namespace PlayC
open RowG
def byDue (x : Jb) : Jb := { x with r := x.d }
def rkL (l : List Jb) (k : Nat) : List Jb := (l.take k).map byDue ++ l.drop k
theorem rkL_len (l : List Jb) (k : Nat) (h : k ≤ l.length) : (rkL l k).length = l.length := by simp [rkL]; omega
theorem rkL_at (l : List Jb) (k : Nat) (h : k < l.length) : (rkL l k)[k]'(by rw [rkL_len l k (by omega)]; exact h) = l[k] := by
  unfold rkL
  rw [List.getElem_append_right (by simp; omega)]
  simp [Nat.min_eq_left (show k ≤ l.length by omega)]
theorem rkL_succ (l : List Jb) (k : Nat) (h : k < l.length) : rkL l (k + 1) = (rkL l k).set k (byDue l[k]) := by
  unfold rkL
  rw [List.set_append_right _ _ (by simp; omega), List.length_map, List.length_take, Nat.min_eq_left (by omega), Nat.sub_self, List.drop_eq_getElem_cons h, List.take_succ_eq_append_getElem h, List.map_append, List.append_assoc]
  rfl
theorem rkL_all (l : List Jb) : rkL l l.length = l.map byDue := by simp [rkL]
set_option maxRecDepth 20000 in
set_option maxHeartbeats 800000 in
theorem rank_any (v : Value) (B : Nat) (l : List Jb) (w : World) (h : OwnJ w B v l) (hl : l.length ≤ 4000) :
    Calls Try.prog 49 #[v] w fun e w' => e = .returned (.tuple #[]) ∧ OwnJ w' B v (l.map byDue) ∧ w.grownBy w' v.ownBlock := by
  rcases h.form with ⟨rfl, rfl⟩ | ⟨g, cap, rfl, hb, hg, h1, h2⟩
  · have HO := hid h
    clear h hl
    go_enter Try.func49, Try.ntmps49
    go_wp2
    go_rounds 1
    go_end0
    exact ⟨rfl, HO.out, grown_refl _ _⟩
  · have HO := hid h
    obtain ⟨n, hn⟩ : ∃ n, n = l.length := ⟨_, rfl⟩
    rw [← hn] at HO ⊢
    have HN := hid hn
    have hnl : n ≤ 4000 := by omega
    clear h hl h1 h2 hb hg hn
    go_enter Try.func49, Try.ntmps49
    go_wp2_with fail
    go_loopw [5] (fun vk wr => ∃ k : Nat, k ≤ n ∧ vk = .int .i64 k ∧ OwnJ wr B (vS g n cap) (rkL l k) ∧ w.grownBy wr (some g)) (fun vk _ => n - (intOf vk).toNat)
    case atStart => exact ⟨0, by omega, rfl, by have e : rkL l 0 = l := by simp [rkL]
                                                rw [e]; exact HO.out, grown_refl _ _⟩
    case round =>
      obtain ⟨k, hk, rfl, ho, hg⟩ := hrel
      have HO1 := hid ho
      have HG1 := hid hg
      clear ho hg
      by_cases hlt : k < n
      · have hkl : k < l.length := by rw [← HN.out]; exact hlt
        have hkl2 : k < (rkL l k).length := by rw [rkL_len l k (by omega)]; exact hkl
        have c4 := HO1.out.cell k 4 hkl2 (by decide)
        have c6 := HO1.out.cell k 6 hkl2 (by decide)
        have fz := HO1.out.frozen (k * 7 + 6)
        have hse := rkL_succ l k hkl
        have hs := HO1.out.set1 k 6 hkl2 (.int .i64 (l[k].d)) (byDue l[k]) (by rw [rkL_at l k hkl]; rfl) (by decide)
        rw [rkL_at l k hkl] at c4 c6
        rw [← hse] at hs
        have e7 : EJ.k = 7 := rfl
        rw [e7] at c4 c6 hs
        generalize hx : l[k] = x at c4 c6 hs
        have HS := hid hs
        clear hs hse hx
        simp [EJ] at c4 c6
        go_wp2_with fail
        go_roundw
        case rel => exact ⟨k + 1, by omega, by go_num, HS.out.1, HG1.out.trans HS.out.2⟩
        case measure => simp [intOf]; omega
      · obtain rfl : k = n := by omega
        go_wp2_with fail
        go_end0
        refine ⟨rfl, ?_, HG1.out⟩
        have := HO1.out
        rw [HN.out, rkL_all] at this
        rw [HN.out]; exact this
end PlayC
end Go.Proofs.Ytpnahhpkaegeeaa

/- What play.work's variables hold; span.Next as the model says it. -/
set_option linter.unusedVariables false
namespace Go.Proofs.Ytpnahhpkaegeeaa
open Go.RowKit hiding tok
open Go.Shelf Go.Sort
open SpanM SpanC PlayM
namespace PlayC
open RowG
/-- the next time of the set from u on -/
def Nx (P : Pl) (u : Nat) (t e : Int) : Prop := (e = 0 ∧ ∃ n : Nat, t = n ∧ u ≤ n ∧ P.on n = true ∧ ∀ x, u ≤ x → x < n → P.on x = false) ∨ (e = 7 ∧ t = 0 ∧ ∀ x, u ≤ x → P.on x = false)
theorem next_nx (P : Pl) (hk : chk P.size P.sl = 0) (u : Nat) (hu : u ≤ 30000) (a : Option Addr) (cap : Nat) (w : World) (hr : Sps w a P.sl) :
    Calls Try.prog 72 #[.agg #[.int .i64 P.size, .slice a P.sl.length cap], .int .i64 u] w fun r w' => ∃ t e, r = .returned (.tuple #[.int .i64 t, .int .i64 e]) ∧ Nx P u t e ∧ 0 ≤ t ∧ t ≤ 1100000 ∧ Below w.heap.size w w' := by
  by_cases hne : P.sl = []
  · have hk' := hk
    rw [hne] at hk' ⊢
    refine (next_none P.size u a cap w hk' (by omega) (by omega)).mono ?_
    rintro r w' ⟨rfl, hb⟩
    refine ⟨0, 7, rfl, .inr ⟨rfl, rfl, fun x _ => ?_⟩, by omega, by omega, hb⟩
    unfold Pl.on PlayM.inS
    rw [hne]; rfl
  · refine (next_ok P.size u a cap P.sl w hr hk (by omega) (by omega) hne).mono ?_
    rintro r w' ⟨n, rfl, ⟨n1, n2, n3, n4⟩, hb⟩
    obtain ⟨s1, s2, _⟩ := chk_zero hk
    refine ⟨n, 0, rfl, .inl ⟨rfl, n.toNat, by omega, by omega, ?_, fun x h1 h2 => ?_⟩, by omega, by omega, hb⟩
    · unfold Pl.on PlayM.inS
      rw [show ((n.toNat : Nat) : Int) = n by omega]; exact n3
    · unfold Pl.on PlayM.inS
      exact n4 x (by omega) (by omega)
/-- all of it: the set's box, the queue's box, the queue, what is done -/
structure Wk (w wr : World) (vs : Array Value) (vq vd : Value) (hq : List Jb) (dn : List Pl.Dn) : Prop where
  bel : Below w.heap.size w wr
  sz : w.heap.size + 2 ≤ wr.heap.size
  set : wr.heap[w.heap.size]? = some (.cells vs 25)
  box : wr.heap[w.heap.size + 1]? = some (oQ vq)
  q : OwnJ wr (w.heap.size + 2) vq hq
  d : OwnD wr (w.heap.size + 2) vd dn
theorem Wk.start (w : World) (vs : Array Value) : Wk w ((w.alloc (.cells vs 25)).alloc (oQ (.slice none 0 0))) vs (.slice none 0 0) (.slice none 0 0) [] [] := by
  have e : (w.alloc (.cells vs 25)).heap.size = w.heap.size + 1 := World.size_alloc _ _
  refine ⟨((Below.refl _ w).alloc (Nat.le_refl _) _).alloc (by rw [e]; omega) _, by rw [World.size_alloc, e]; omega, box_alloc (box_new w vs _) _, ?_, Own.nil _ _ _ _, Own.nil _ _ _ _⟩
  have := box_new (w.alloc (.cells vs 25)) #[.slice none 0 0] 106
  rw [e] at this; exact this
variable {w wr w' : World} {vs : Array Value} {vq vd : Value} {hq : List Jb} {dn : List Pl.Dn}
theorem Wk.below (h : Wk w wr vs vq vd hq dn) (hb : Below wr.heap.size wr w') : Wk w w' vs vq vd hq dn :=
  ⟨h.bel.trans ⟨hb.os, hb.tape, hb.output, hb.size, fun k hk => hb.block k (by have := h.sz; omega)⟩, Nat.le_trans h.sz hb.size, box_below h.set hb (Nat.le_refl _), box_below h.box hb (Nat.le_refl _), h.q.below hb (Nat.le_refl _), h.d.below hb (Nat.le_refl _)⟩
/-- rows of two types lie apart -/
theorem own_apart {α β : Type} {E : Enc α} {E' : Enc β} {T T' B B' : Nat} {w : World} {v v' : Value} {l : List α} {l' : List β} (h : Own E T w B v l) (h' : Own E' T' w B' v' l') (hT : T ≠ T') : v.ownBlock = none ∨ v.ownBlock ≠ v'.ownBlock := by
  rcases h.2 with ⟨rfl, _⟩ | ⟨g, cap, cur, rfl, _, hg, _⟩
  · exact .inl rfl
  · rcases h'.2 with ⟨rfl, _⟩ | ⟨g', cap', cur', rfl, _, hg', _⟩
    · exact .inr (by simp [Value.ownBlock])
    · refine .inr fun e => ?_
      simp only [Value.ownBlock, Option.some.injEq] at e
      rw [e, hg'] at hg
      injection hg with hg
      injection hg with _ h2 _
      exact hT h2.symm
theorem own_ge {α : Type} {E : Enc α} {T B : Nat} {w : World} {v : Value} {l : List α} (h : Own E T w B v l) : ∀ k, v.ownBlock = some k → B ≤ k := fun k hk => (h.lt k hk).1
theorem Wk.heap {vq' : Value} {hq' : List Jb} (h : Wk w wr vs vq vd hq dn) (hc : Ch (w.heap.size + 1) vq.ownBlock wr w') (hb : w'.heap[w.heap.size + 1]? = some (oQ vq')) (ho : OwnJ w' (w.heap.size + 2) vq' hq') : Wk w w' vs vq' vd hq' dn := by
  have hge := own_ge h.q
  have hsz := h.sz
  refine ⟨h.bel.trans ⟨hc.os, hc.tape, hc.output, hc.size, fun k hk => hc.block k (by omega) (by omega) (fun e => ?_)⟩, Nat.le_trans h.sz hc.size, ?_, hb, ho, ?_⟩
  · have := hge k e.symm; omega
  · rw [hc.block _ (by omega) (by omega) (fun e => by have := hge _ e.symm; omega)]; exact h.set
  · refine hc.own h.d (fun e => ?_) (own_apart h.d h.q (by decide))
    have := own_ge h.d _ e; omega
theorem Wk.row {hq' : List Jb} (h : Wk w wr vs vq vd hq dn) (hg : wr.grownBy w' vq.ownBlock) (ho : OwnJ w' (w.heap.size + 2) vq hq') : Wk w w' vs vq vd hq' dn := by
  refine h.heap (Ch.of hg) ?_ ho
  exact box_grown h.box hg (own_ne h.q h.box (by decide))
theorem Wk.done {vd' : Value} {dn' : List Pl.Dn} (h : Wk w wr vs vq vd hq dn) (hg : wr.grownBy w' vd.ownBlock) (ho : OwnD w' (w.heap.size + 2) vd' dn') : Wk w w' vs vq vd' hq dn' := by
  have hge := own_ge h.d
  have hsz := h.sz
  refine ⟨h.bel.trans ⟨hg.os, hg.tape, hg.output, hg.size, fun k hk => hg.block k (by omega) (fun e => ?_)⟩, Nat.le_trans h.sz hg.size, ?_, ?_, ?_, ho⟩
  · have := hge k e.symm; omega
  · exact box_grown h.set hg (fun e => by have := hge _ e.symm; omega)
  · exact box_grown h.box hg (fun e => by have := hge _ e.symm; omega)
  · exact h.q.kept hg (own_apart h.q h.d (by decide))
/-- one further -/
theorem rd_tail {w : World} {b off : Nat} {x : Jb} {l : List Jb} (h : Rd EJ w (some ⟨b, off, none⟩) (x :: l)) : Rd EJ w (some ⟨b, off + 7, none⟩) l := by
  by_cases hl : l = []
  · exact .inl hl
  · rcases h with h | ⟨b', off', e, h⟩
    · simp at h
    · simp only [Option.some.injEq, Addr.mk.injEq, and_true] at e
      obtain ⟨rfl, rfl⟩ := e
      refine .inr ⟨b, off + 7, rfl, fun i j hi hj => ?_⟩
      have := h (i + 1) j (by simp; omega) hj
      have e7 : EJ.k = 7 := rfl
      rw [e7] at this ⊢
      rw [show off + 7 + i * 7 + j = off + (i + 1) * 7 + j by omega, this]
      rfl
theorem idles_bd (P : Pl) (hP : P.Ok) : ∀ u, 0 ≤ P.idles u ∧ P.idles u ≤ u
  | 0 => by simp [Pl.idles]
  | u + 1 => by
    have := idles_bd P hP u
    have e : P.idles (u + 1) = P.idles u + P.idle1 (P.Lf u) u := rfl
    rcases Pl.cases1 hP (P.Lf u) u with ⟨_, _, _, _, c⟩ | ⟨_, _, _, _, _, c⟩ | ⟨_, _, _, _, _, _, _, c⟩ <;> rw [c] at e <;> omega
theorem outs_bd (P : Pl) (hP : P.Ok) : ∀ u, (P.outs u).length ≤ u
  | 0 => by simp [Pl.outs]
  | u + 1 => by
    have := outs_bd P hP u
    have e : P.outs (u + 1) = P.outs u ++ P.out1 (P.Lf u) u := rfl
    rw [e, List.length_append]
    rcases Pl.cases1 hP (P.Lf u) u with ⟨_, _, _, c, _⟩ | ⟨_, _, _, _, c, _⟩ | ⟨_, _, _, _, _, _, c, _⟩ <;> rw [c]
    · simp; omega
    · simp; omega
    · split <;> simp <;> omega
/-- how many waits there are at most -/
theorem Qs.len {P : Pl} {S : List (Nat × Nat)} {u m : Nat} {h : List Jb} (H : Qs P S u m h) : h.length ≤ m ∧ h.length ≤ S.length := by
  have h1 := H.perm.length_eq
  rw [List.length_map] at h1
  have h2 : (Fq P u S m).length ≤ (S.take m).length := List.length_filter_le _ _
  rw [List.length_take] at h2
  omega
/-- how far the loop is -/
def mz (t e : Value) : Nat := if intOf e = 0 then 3000000 - (intOf t).toNat else 0
theorem mz_less {P : Pl} {u : Nat} {t t' e' : Int} (ht : 0 ≤ t) (ht2 : t ≤ 20000) (hu : u = t.toNat + 1) (h : Nx P u t' e') : mz (.int .i64 t') (.int .i64 e') < mz (.int .i64 t) (.int .i64 0) := by
  unfold mz
  simp only [intOf]
  rcases h with ⟨rfl, n, rfl, h1, _⟩ | ⟨rfl, rfl, _⟩
  · simp; omega
  · simp; omega
end PlayC
end Go.Proofs.Ytpnahhpkaegeeaa

/- Contracts: play.work. -/
set_option linter.unusedVariables false
namespace Go.Proofs.Ytpnahhpkaegeeaa
open Go.RowKit hiding tok
open Go.Shelf Go.Sort
open SpanM SpanC PlayM
namespace PlayC
open RowG
/-- how long a row is -/
def lz (v : Value) : Nat := match v with | .slice _ n _ => n | _ => 0
theorem below_two (w : World) (o o' : Obj) : Below w.heap.size w ((w.alloc o).alloc o') := ((Below.refl _ w).alloc (Nat.le_refl _) o).alloc (by rw [World.size_alloc]; omega) o'
/-- what holds at the loop's head -/
structure Inv (P : Pl) (S : List (Nat × Nat)) (w wr : World) (vs : Array Value) (u m : Nat) (vq vd : Value) (hq : List Jb) (aj : Option Addr) : Prop where
  k : Wk w wr vs vq vd hq (P.outs u)
  q : Qs P S u m hq
  h : Here P S u m
  r : Rd EJ w aj ((S.drop m).map (jy P))
/-- .. and within a time, while jobs come -/
structure Inn (P : Pl) (S : List (Nat × Nat)) (w wr : World) (vs : Array Value) (t m : Nat) (vq vd : Value) (hq : List Jb) (aj : Option Addr) : Prop where
  k : Wk w wr vs vq vd hq (P.outs t)
  q : Qs P S t m hq
  h : Here P S t m
  r : Rd EJ w aj ((S.drop m).map (jy P))
set_option maxRecDepth 20000 in
set_option maxHeartbeats 6400000 in
theorem work_any (P : Pl) (T : Int) (S : List (Nat × Nat)) (J : Js P T S) (h1 : 0 ≤ T) (h2 : T ≤ 20000) (hl : S.length ≤ 2000) (v : Value) (B0 : Nat) (a : Option Addr) (cap : Nat) (w : World) (hv : OwnJ w B0 v (S.map (jy P))) (hs : Sps w a P.sl) (hk : chk P.size P.sl = 0) :
    Calls Try.prog 50 #[v, .agg #[.int .i64 P.size, .slice a P.sl.length cap], .int .i64 T] w fun e w' => (∃ vd, e = .returned (.tuple #[vd, .int .i64 (P.idles T.toNat)]) ∧ OwnD w' w.heap.size vd (P.outs T.toNat)) ∧ Below w.heap.size w w' := by
  obtain ⟨i0, hi, hz0, hz1, hz2⟩ := info_parts infoD
  have Hi := hid hi
  have Hz0 := hid hz0
  have Hz1 := hid hz1
  have Hz2 := hid hz2
  clear hi hz0 hz1 hz2
  obtain ⟨a0, cap0, rfl, hrd, hnil⟩ := hv.rd
  have hcap : S.length ≤ cap0 := by
    rcases hv.form with ⟨e, e2⟩ | ⟨g, c, e, _, _, e3, _⟩
    · simp at e2; simp [e2]
    · simp at e; simp at e3; omega
  rw [List.length_map]
  have HJ := hid J
  have HS := hid hs
  have HK := hid hk
  have HR := hid hrd
  have HT := hid (show ((T.toNat : Nat) : Int) = T by omega)
  have HST := hid (Wk.start w #[.int .i64 P.size, .slice a P.sl.length cap])
  have HN0 := hid (next_nx P hk 0 (by omega) a cap _ (hs.below HST.out.bel (Nat.le_refl _)))
  have hz : ((0 : Nat) : Int) = 0 := rfl
  rw [hz] at HN0
  obtain ⟨n, hn⟩ : ∃ n, n = S.length := ⟨_, rfl⟩
  rw [← hn]
  rw [← hn] at hcap hl
  have HNS := hid hn
  clear J hs hk hrd hnil hv hn
  generalize hps : P.size = psz at HN0 HST ⊢
  generalize hpn : P.sl.length = pn at HN0 HST ⊢
  have HPS := hid hps
  have HPN := hid hpn
  clear hps hpn
  go_enter Try.func50, Try.ntmps50
  go_wp2_with (first | (go_at_call 72; refine HN0.out.mono ?_; rintro r w1 ⟨t0, e0, rfl, hx0, ht0, ht1, hb0⟩; have HW1 := hid (HST.out.below hb0); have HX0 := hid hx0; clear hb0 hx0))
  go_loopw [0, 8, 10, 11, 12] (fun vj v8 vi vt ve wr => ∃ (u m : Nat) (hq : List Jb) (vq vd : Value) (aj : Option Addr) (cj nj : Nat) (t e : Int), vj = .slice aj nj cj ∧ vd = v8 ∧ vi = .int .i64 (P.idles u) ∧ vt = .int .i64 t ∧ ve = .int .i64 e ∧ nj + m = n ∧ nj ≤ cj ∧ 0 ≤ t ∧ t ≤ 1100000 ∧ u ≤ 20000 ∧ (u : Int) ≤ T ∧ Hid (Nx P u t e) ∧ Hid (Inv P S w wr #[.int .i64 psz, .slice a pn cap] u m vq vd hq aj)) (fun _ _ _ vt ve _ => mz vt ve)
  case atStart => exact ⟨0, 0, [], _, _, a0, cap0, n, t0, e0, rfl, rfl, rfl, rfl, rfl, by omega, hcap, ht0, ht1, by omega, by omega, HX0, (⟨HW1.out, Qs.zero P S, Here.zero P S 0, HR.out⟩ : Inv _ _ _ _ _ _ _ _ _ _ _)⟩
  case round =>
    obtain ⟨u, m, hq, vq, vd, aj, cj, nj, t, e, rfl, rfl, rfl, rfl, rfl, hnm, hcj, ht0, ht1, hu1, hu2, HX, HI⟩ := hrel
    by_cases hgo : e = 0 ∧ t < T
    · obtain ⟨rfl, htT⟩ := hgo
      obtain ⟨k0, rfl, hk1, hon, hoff⟩ : ∃ k0 : Nat, t = k0 ∧ u ≤ k0 ∧ P.on k0 = true ∧ ∀ x, u ≤ x → x < k0 → P.on x = false := by
        rcases HX.out with ⟨_, k0, h⟩ | ⟨h, _⟩
        · exact ⟨k0, h⟩
        · exact absurd h (by decide)
      obtain ⟨sk1, sk2, sk3⟩ := skip HJ.out.ok hk1 hoff
      have HON := hid hon
      have SK1 := hid sk1
      have SK2 := hid sk2
      have SK3 := hid sk3
      have HIN := hid (show Inn P S w wr #[.int .i64 psz, .slice a pn cap] k0 m vq vd hq aj from ⟨by rw [sk2]; exact HI.out.k, HI.out.q.skip sk1, HI.out.h.later hk1, HI.out.r⟩)
      have HK1 := hid hk1
      have hk20 : k0 ≤ 20000 := by omega
      have HNX := hid (fun (W : World) (hW : Sps W a P.sl) => next_nx P HK.out (k0 + 1) (by omega) a cap W hW)
      rw [show (((k0 + 1 : Nat) : Int)) = (k0 : Int) + 1 by omega, HPS.out, HPN.out] at HNX
      obtain ⟨hid0, hid1⟩ := idles_bd P HJ.out.ok u
      have hid2 : P.idles u ≤ 20000 := by omega
      generalize hidl : P.idles u = idl at *
      have HIDL := hid hidl
      clear sk1 sk2 sk3 hon hoff hk1 hidl HX HI
      clear HX0 HW1 HN0 HST
      go_wp2_with fail
      obtain ⟨w0, hw0⟩ : ∃ x, x = wr := ⟨_, rfl⟩
      subst hw0
      go_loopw [0] (fun vj wr => ∃ (m : Nat) (hq : List Jb) (vq : Value) (aj : Option Addr) (cj nj : Nat), vj = .slice aj nj cj ∧ nj + m = n ∧ nj ≤ cj ∧ Hid (Inn P S w wr #[.int .i64 psz, .slice a pn cap] k0 m vq vd hq aj)) (fun vj _ => lz vj)
      case atStart => exact ⟨m, hq, vq, aj, cj, nj, rfl, hnm, hcj, HIN⟩
      case round =>
        clear HIN hnm hcj
        obtain ⟨m, hq, vq, aj, cj, nj, rfl, hnm, hcj, HIN⟩ := hrel
        have hql := HIN.out.q.len
        by_cases hnj : nj = 0
        · subst hnj
          have HCM := hid (Come.of HJ.out (t := k0) (m := m) (.inl (by have := HNS.out; omega)))
          have hb0 := box_cell HIN.out.k.box 0
          have hs0 := box_cell HIN.out.k.set 0
          have hs1 := box_cell HIN.out.k.set 1
          simp at hb0 hs0 hs1
          by_cases hq0 : hq.length = 0
          · have hqe : hq = [] := List.length_eq_zero_iff.1 hq0
            have HZ := hid (Qs.none HJ.out (by rw [← hqe]; exact HIN.out.q) HCM.out htT HON.out)
            have WK := hid HIN.out.k
            obtain ⟨aq, cq, hvq⟩ := HIN.out.k.q.slice
            rw [hq0] at hvq
            subst hvq
            clear hqe hq0 hql
            go_wp2_with (first | (go_at_call 72; refine (HNX.out _ (HS.out.below WK.out.bel (Nat.le_refl _))).mono ?_; rintro r w9 ⟨t9, e9, rfl, hx9, ht9, ht99, hb9⟩; have HX9 := hid hx9; have WK9 := hid (WK.out.below hb9); clear hb9 hx9))
            go_roundw
            case rel =>
              refine ⟨k0 + 1, m, hq, .slice aq 0 cq, vd, _, cj, 0, t9, e9, rfl, rfl, by rw [HZ.out.2.2, SK3.out], rfl, rfl, by omega, by omega, ht9, ht99, by omega, by omega, HX9, (⟨?_, ?_, ?_, ?_⟩ : Inv _ _ _ _ _ _ _ _ _ _ _)⟩
              · rw [HZ.out.2.1]; exact WK9.out
              · exact HIN.out.q.skip HZ.out.1
              · exact HIN.out.h.later (by omega)
              · exact HIN.out.r
            case measure => exact mz_less (by omega) (by omega) (by omega) HX9.out
          · obtain ⟨g, cq, hvq, hgB, hgs, hlc, hcm2⟩ := HIN.out.k.q.pos (by omega)
            obtain ⟨i, k, hg0, hfq, hbest⟩ := HIN.out.q.best HJ.out HCM.out HIN.out.h htT (by omega)
            have hwk := HIN.out.q.work HJ.out (by omega) hg0 hfq hbest HON.out
            subst hvq
            have hq00 : 0 < hq.length := by omega
            have hgt : gt hq 0 = hq[0] := by unfold gt; rw [getD_at hq 0 hq00]
            have c5 := HIN.out.k.q.cell 0 5 hq00 (by decide)
            have fz := HIN.out.k.q.frozen 5
            have e7 : EJ.k = 7 := rfl
            have hf5 : hq[0].f = P.Lf k0 i k := by rw [← hgt, hg0]; rfl
            have hfp := (Fq_mem hfq).2
            have hfb := Pl.Lf_le HJ.out.ok k0 i k
            have htk := (HJ.out.ok.at hbest.1.1)
            have hfm : P.Lf k0 i k ≤ 10000 := by
              unfold TaskM.tok at htk
              omega
            simp [EJ] at c5
            rw [hf5] at c5
            have hgt5 : hq[0] = jw P k0 (i, k) := by rw [← hgt, hg0]
            simp only at hfp
            have hdx : ∀ z : Int, hq.set 0 { hq[0] with f := z } = hq.set 0 { gt hq 0 with f := z } := fun z => by rw [hgt]
            have hS := fun z => HIN.out.k.q.set1 0 5 hq00 (.int .i64 z) { hq[0] with f := z } rfl (by decide)
            have hS2 := fun z => HIN.out.k.row (hS z).2 (hS z).1
            simp only [Nat.zero_mul, Nat.zero_add] at hS2
            clear hgt htk hfb hS hgB
            by_cases hf1 : P.Lf k0 i k = 1
            · have hdec : hq.set 0 { hq[0] with f := 0 } = dec hq := by unfold dec; rw [hdx, hg0]; simp only [jw]; rw [hf1]; rfl
              have WK2 := hS2 0
              rw [hdec] at WK2
              have hgd : gt (dec hq) 0 = ⟨i, k, P.cm i k, 0, P.du i k, 0, P.ky i k⟩ := by
                unfold dec gt
                rw [getD_at _ 0 (by simpa using hq00)]
                simp only [List.getElem_set_self]
                have := hg0
                unfold gt at this
                rw [this]
                unfold jw
                simp only [hf1]
                rfl
              have hdl : (dec hq).length = hq.length := by simp [dec]
              have hPop := hid (hpop_any (w.heap.size + 1) (w.heap.size + 2) g hq.length cq (dec hq) _ WK2.box WK2.q hdl.symm hq00 (dec_heap HIN.out.q.heap) (by rw [hdl]; have := HNS.out; omega))
              have y0 := box_cell WK2.box 0
              have y5 := WK2.q.cell 0 5 (by rw [hdl]; exact hq00) (by decide)
              have hd0 : (dec hq)[0]'(by rw [hdl]; exact hq00) = ⟨i, k, P.cm i k, 0, P.du i k, 0, P.ky i k⟩ := by
                rw [← hgd]; unfold gt; rw [getD_at _ 0 (by rw [hdl]; exact hq00)]
              rw [hd0] at y5
              simp [EJ] at y0 y5
              rw [hgd] at hPop
              simp only [vJ] at hPop
              rw [hf1] at c5
              have HW := hid hwk
              have HF1 := hid hf1
              have HGD := hid hgd
              have hta := assertJ
              have HQL := hid (show (dec hq).length = hq.length from hdl)
              have HWK2 := hid WK2
              generalize hcmv : P.cm i k = cmv at *
              generalize hduv : P.du i k = duv at *
              generalize hkyv : P.ky i k = kyv at *
              clear hql hwk hf1 hgd hdl hd0 WK2 hdec hS2 hdx hgt5 hf5 hfp hfm hg0 hfq hbest hduv hkyv
              have HCMV := hid hcmv
              clear hcmv
              generalize hql0 : hq.length = ql at *
              have hqz : (ql : Int) ≠ 0 := by omega
              have hqz2 : ((ql : Int) == 0) = false := by simp; omega
              have hq1 : (0 : Int) < (ql : Int) := by omega
              have HOB := hid (Nat.le_trans (outs_bd P HJ.out.ok k0) hk20)
              go_wp2_with (first | (go_at_call 74; refine hPop.out.mono ?_; rintro r w3 ⟨rfl, l3, hb3, ho3, hp3, hh3, hc3⟩; have HWK3 := hid (HWK2.out.heap hc3 hb3 ho3); have HP3 := hid hp3; have HH3 := hid hh3; clear hb3 ho3 hp3 hh3 hc3) | (at_builtin; refine wpList_append_own _ rfl _ _ 27 rfl (w.heap.size + 2) 40 i0 (.agg #[.int .i64 0, .int .i64 0, .int .i64 0, .int .i64 0]) 4 32 Try.underlying27 Hi.out Hz0.out Hz1.out Hz2.out rfl (by decide) _ (P.outs k0).length (ED.flat (P.outs k0)) rfl ?qc0 ⟨w3.heap.size + 1, 0, none⟩ 1 1 (ED.enc ((i : Int), (k : Int), cmv, (k0 : Int) + 1)) ?qcx ?qc1 ?qc2 ?qc3 ?qc4 ?qc5 ?qc6 ?_))
              case qc0 => exact World.ownsRow.alloc (World.ownsRow.alloc HWK3.out.d _) _
              case qcx => rfl
              case qc1 => rfl
              case qc2 =>
                intro j z hj
                match j, hj with
                | 0, hj => simp [ED] at hj; subst hj; exact World.cell?_alloc_at _ _ _ _ (by simp)
                | 1, hj => simp [ED] at hj; subst hj; exact World.cell?_alloc_at _ _ _ _ (by simp)
                | 2, hj => simp [ED] at hj; subst hj; exact World.cell?_alloc_at _ _ _ _ (by simp)
                | 3, hj => simp [ED] at hj; subst hj; exact World.cell?_alloc_at _ _ _ _ (by simp)
                | j + 4, hj => simp [ED] at hj
              case qc3 => exact ED.h1 _
              case qc4 => have := HOB.out; unfold maxLen; omega
              case qc5 => have := HOB.out; omega
              case qc6 => have := HWK3.out.sz; simp; omega
              intro v5 w5 hown hgrow hnil
              have ho5 : OwnD w5 (w.heap.size + 2) v5 (P.outs k0 ++ [((i : Int), (k : Int), cmv, (k0 : Int) + 1)]) := own_snoc hown rfl rfl
              have WK := hid ((HWK3.out.below (below_two w3 _ _)).done hgrow ho5)
              have z0 := box_cell WK.out.set 0
              have z1 := box_cell WK.out.set 1
              simp at z0 z1
              clear hown hgrow hnil ho5 hb0 hs0 hs1 y0 y5 c5 fz
              go_wp2_with (first | (go_at_call 72; refine (HNX.out _ (HS.out.below WK.out.bel (Nat.le_refl _))).mono ?_; rintro r w9 ⟨t9, e9, rfl, hx9, ht9, ht99, hb9⟩; have HX9 := hid hx9; have WK9 := hid (WK.out.below hb9); clear hb9 hx9))
              go_roundw
              case rel =>
                obtain ⟨f1, f2, f3, f4, f5⟩ := HW.out
                have e1 := HP3.out.length_eq
                have e2 := HQL.out
                simp at e1
                refine ⟨k0 + 1, m, l3, vS g (ql - 1) cq, v5, _, cj, 0, t9, e9, rfl, rfl, by rw [f3, SK3.out], rfl, rfl, by omega, by omega, ht9, ht99, by omega, by omega, HX9, (⟨?_, ?_, ?_, ?_⟩ : Inv _ _ _ _ _ _ _ _ _ _ _)⟩
                · rw [f2, if_pos HF1.out]; exact WK9.out
                · exact f5 HF1.out l3 (by rw [HGD.out]; exact HP3.out) (by rw [show l3.length = ql - 1 by omega]; exact HH3.out)
                · exact HIN.out.h.later (by omega)
                · exact HIN.out.r
              case measure => exact mz_less (by omega) (by omega) (by omega) HX9.out
            · have hdec : hq.set 0 { hq[0] with f := P.Lf k0 i k - 1 } = dec hq := by unfold dec; rw [hdx, hg0]; rfl
              have WK2 := hS2 (P.Lf k0 i k - 1)
              rw [hdec] at WK2
              have hdl : (dec hq).length = hq.length := by simp [dec]
              have y0 := box_cell WK2.box 0
              have y5 := WK2.q.cell 0 5 (by rw [hdl]; exact hq00) (by decide)
              have hd0 : ((dec hq)[0]'(by rw [hdl]; exact hq00)).f = P.Lf k0 i k - 1 := by
                unfold dec
                simp only [List.getElem_set_self, hg0]
                rfl
              simp [EJ] at y0 y5
              rw [hd0] at y5
              have WK := hid WK2
              have z0 := box_cell WK2.set 0
              have z1 := box_cell WK2.set 1
              simp at z0 z1
              have HW := hid hwk
              have HF1 := hid hf1
              generalize hflv : P.Lf k0 i k = flv at *
              have hfz : (flv - 1 == 0) = false := by simp; omega
              clear hql hwk hdl hd0 WK2 hdec hS2 hdx hgt5 hf5 hg0 hfq hbest hflv
              generalize hql0 : hq.length = ql at *
              have hqz : (ql : Int) ≠ 0 := by omega
              have hqz2 : ((ql : Int) == 0) = false := by simp; omega
              have hq1 : (0 : Int) < (ql : Int) := by omega
              go_wp2_with (first | (go_at_call 72; refine (HNX.out _ (HS.out.below WK.out.bel (Nat.le_refl _))).mono ?_; rintro r w9 ⟨t9, e9, rfl, hx9, ht9, ht99, hb9⟩; have HX9 := hid hx9; have WK9 := hid (WK.out.below hb9); clear hb9 hx9))
              go_roundw
              case rel =>
                obtain ⟨f1, f2, f3, f4, f5⟩ := HW.out
                refine ⟨k0 + 1, m, dec hq, vS g ql cq, vd, _, cj, 0, t9, e9, rfl, rfl, by rw [f3, SK3.out], rfl, rfl, by omega, by omega, ht9, ht99, by omega, by omega, HX9, (⟨?_, ?_, ?_, ?_⟩ : Inv _ _ _ _ _ _ _ _ _ _ _)⟩
                · rw [f2, if_neg HF1.out, List.append_nil]; exact WK9.out
                · exact f4 HF1.out
                · exact HIN.out.h.later (by omega)
                · exact HIN.out.r
              case measure => exact mz_less (by omega) (by omega) (by omega) HX9.out
        · obtain ⟨nk, rfl⟩ : ∃ nk, nj = nk + 1 := ⟨nj - 1, by omega⟩
          have hmS : m < S.length := by have := HNS.out; omega
          have hdr : S.drop m = S[m] :: S.drop (m + 1) := List.drop_eq_getElem_cons hmS
          have hr := HIN.out.r
          rw [hdr, List.map_cons] at hr
          obtain ⟨p, off, haj, hcl⟩ := (hr.below HIN.out.k.bel (Nat.le_refl _)).at 0 (by simp)
          subst haj
          have hr2 := hid (rd_tail hr)
          have hcm : (jy P S[m]).c = P.cm S[m].1 S[m].2 := rfl
          have HPU := hid (fun (h' : List Jb) hp hh => HIN.out.q.push (h' := h') HJ.out hmS hp hh)
          have HCOM := hid (fun h : (k0 : Int) < P.cm S[m].1 S[m].2 => Come.of HJ.out (t := k0) (m := m) (.inr ⟨hmS, h⟩))
          have HHR := hid (fun h : P.cm S[m].1 S[m].2 ≤ k0 => HIN.out.h.next hmS h)
          rw [← hcm] at HCOM HHR
          clear hcm hr hdr
          simp only [List.getElem_cons_zero] at hcl
          generalize jy P S[m] = x at *
          have hP := hid (hpush_any (w.heap.size + 1) (w.heap.size + 2) vq x hq wr HIN.out.k.box HIN.out.k.q HIN.out.q.heap (by have := HNS.out; omega) HIN.out.k.sz)
          obtain ⟨x0, x1, x2, x3, x4, x5, x6⟩ := x
          have a0 := hcl 0 (by decide); have a1 := hcl 1 (by decide); have a2 := hcl 2 (by decide); have a3 := hcl 3 (by decide); have a4 := hcl 4 (by decide); have a5 := hcl 5 (by decide); have a6 := hcl 6 (by decide)
          simp [EJ] at a0 a1 a2 a3 a4 a5 a6
          simp only [vJ] at hP
          simp only at HCOM HHR
          clear hcl
          have hnk : nk ≤ 2000 := by omega
          have hcj1 : 1 ≤ cj := by omega
          by_cases hct : x2 ≤ (k0 : Int)
          · go_wp2_with (first | (go_at_call 73; refine hP.out.mono ?_; rintro e w1 ⟨rfl, g1, c1, l1, hb1, ho1, hp1, hh1, hc1, hg1⟩; have HW2 := hid (HIN.out.k.heap hc1 hb1 ho1); have HP2 := hid hp1; have HH2 := hid hh1; clear hb1 ho1 hp1 hh1 hc1 hg1))
            go_roundw
            case rel =>
              have e1 := HP2.out.length_eq
              simp at e1
              refine ⟨m + 1, l1, _, _, _, nk, rfl, by omega, by omega, (⟨HW2.out, HPU.out l1 HP2.out (by rw [e1]; exact HH2.out), HHR.out hct, ?_⟩ : Inn _ _ _ _ _ _ _ _ _ _ _)⟩
              by_cases hc1 : cj = 1
              · refine .inl ?_
                rw [List.drop_of_length_le (by have := HNS.out; omega)]; rfl
              · rw [if_neg hc1]; exact hr2.out
            case measure => simp [lz]
          · have HCM := hid (HCOM.out (by omega))
            clear hP HPU
            have hb0 := box_cell HIN.out.k.box 0
            have hs0 := box_cell HIN.out.k.set 0
            have hs1 := box_cell HIN.out.k.set 1
            simp at hb0 hs0 hs1
            by_cases hq0 : hq.length = 0
            · have hqe : hq = [] := List.length_eq_zero_iff.1 hq0
              have HZ := hid (Qs.none HJ.out (by rw [← hqe]; exact HIN.out.q) HCM.out htT HON.out)
              have WK := hid HIN.out.k
              obtain ⟨aq, cq, hvq⟩ := HIN.out.k.q.slice
              rw [hq0] at hvq
              subst hvq
              clear hqe hq0 hql
              go_wp2_with (first | (go_at_call 72; refine (HNX.out _ (HS.out.below WK.out.bel (Nat.le_refl _))).mono ?_; rintro r w9 ⟨t9, e9, rfl, hx9, ht9, ht99, hb9⟩; have HX9 := hid hx9; have WK9 := hid (WK.out.below hb9); clear hb9 hx9))
              go_roundw
              case rel =>
                refine ⟨k0 + 1, m, hq, .slice aq 0 cq, vd, _, cj, (nk + 1), t9, e9, rfl, rfl, by rw [HZ.out.2.2, SK3.out], rfl, rfl, by omega, by omega, ht9, ht99, by omega, by omega, HX9, (⟨?_, ?_, ?_, ?_⟩ : Inv _ _ _ _ _ _ _ _ _ _ _)⟩
                · rw [HZ.out.2.1]; exact WK9.out
                · exact HIN.out.q.skip HZ.out.1
                · exact HIN.out.h.later (by omega)
                · exact HIN.out.r
              case measure => exact mz_less (by omega) (by omega) (by omega) HX9.out
            · obtain ⟨g, cq, hvq, hgB, hgs, hlc, hcm2⟩ := HIN.out.k.q.pos (by omega)
              obtain ⟨i, k, hg0, hfq, hbest⟩ := HIN.out.q.best HJ.out HCM.out HIN.out.h htT (by omega)
              have hwk := HIN.out.q.work HJ.out (by omega) hg0 hfq hbest HON.out
              subst hvq
              have hq00 : 0 < hq.length := by omega
              have hgt : gt hq 0 = hq[0] := by unfold gt; rw [getD_at hq 0 hq00]
              have c5 := HIN.out.k.q.cell 0 5 hq00 (by decide)
              have fz := HIN.out.k.q.frozen 5
              have e7 : EJ.k = 7 := rfl
              have hf5 : hq[0].f = P.Lf k0 i k := by rw [← hgt, hg0]; rfl
              have hfp := (Fq_mem hfq).2
              have hfb := Pl.Lf_le HJ.out.ok k0 i k
              have htk := (HJ.out.ok.at hbest.1.1)
              have hfm : P.Lf k0 i k ≤ 10000 := by
                unfold TaskM.tok at htk
                omega
              simp [EJ] at c5
              rw [hf5] at c5
              have hgt5 : hq[0] = jw P k0 (i, k) := by rw [← hgt, hg0]
              simp only at hfp
              have hdx : ∀ z : Int, hq.set 0 { hq[0] with f := z } = hq.set 0 { gt hq 0 with f := z } := fun z => by rw [hgt]
              have hS := fun z => HIN.out.k.q.set1 0 5 hq00 (.int .i64 z) { hq[0] with f := z } rfl (by decide)
              have hS2 := fun z => HIN.out.k.row (hS z).2 (hS z).1
              simp only [Nat.zero_mul, Nat.zero_add] at hS2
              clear hgt htk hfb hS hgB
              by_cases hf1 : P.Lf k0 i k = 1
              · have hdec : hq.set 0 { hq[0] with f := 0 } = dec hq := by unfold dec; rw [hdx, hg0]; simp only [jw]; rw [hf1]; rfl
                have WK2 := hS2 0
                rw [hdec] at WK2
                have hgd : gt (dec hq) 0 = ⟨i, k, P.cm i k, 0, P.du i k, 0, P.ky i k⟩ := by
                  unfold dec gt
                  rw [getD_at _ 0 (by simpa using hq00)]
                  simp only [List.getElem_set_self]
                  have := hg0
                  unfold gt at this
                  rw [this]
                  unfold jw
                  simp only [hf1]
                  rfl
                have hdl : (dec hq).length = hq.length := by simp [dec]
                have hPop := hid (hpop_any (w.heap.size + 1) (w.heap.size + 2) g hq.length cq (dec hq) _ WK2.box WK2.q hdl.symm hq00 (dec_heap HIN.out.q.heap) (by rw [hdl]; have := HNS.out; omega))
                have y0 := box_cell WK2.box 0
                have y5 := WK2.q.cell 0 5 (by rw [hdl]; exact hq00) (by decide)
                have hd0 : (dec hq)[0]'(by rw [hdl]; exact hq00) = ⟨i, k, P.cm i k, 0, P.du i k, 0, P.ky i k⟩ := by
                  rw [← hgd]; unfold gt; rw [getD_at _ 0 (by rw [hdl]; exact hq00)]
                rw [hd0] at y5
                simp [EJ] at y0 y5
                rw [hgd] at hPop
                simp only [vJ] at hPop
                rw [hf1] at c5
                have HW := hid hwk
                have HF1 := hid hf1
                have HGD := hid hgd
                have hta := assertJ
                have HQL := hid (show (dec hq).length = hq.length from hdl)
                have HWK2 := hid WK2
                generalize hcmv : P.cm i k = cmv at *
                generalize hduv : P.du i k = duv at *
                generalize hkyv : P.ky i k = kyv at *
                clear hql hwk hf1 hgd hdl hd0 WK2 hdec hS2 hdx hgt5 hf5 hfp hfm hg0 hfq hbest hduv hkyv
                have HCMV := hid hcmv
                clear hcmv
                generalize hql0 : hq.length = ql at *
                have hqz : (ql : Int) ≠ 0 := by omega
                have hqz2 : ((ql : Int) == 0) = false := by simp; omega
                have hq1 : (0 : Int) < (ql : Int) := by omega
                have HOB := hid (Nat.le_trans (outs_bd P HJ.out.ok k0) hk20)
                go_wp2_with (first | (go_at_call 74; refine hPop.out.mono ?_; rintro r w3 ⟨rfl, l3, hb3, ho3, hp3, hh3, hc3⟩; have HWK3 := hid (HWK2.out.heap hc3 hb3 ho3); have HP3 := hid hp3; have HH3 := hid hh3; clear hb3 ho3 hp3 hh3 hc3) | (at_builtin; refine wpList_append_own _ rfl _ _ 27 rfl (w.heap.size + 2) 40 i0 (.agg #[.int .i64 0, .int .i64 0, .int .i64 0, .int .i64 0]) 4 32 Try.underlying27 Hi.out Hz0.out Hz1.out Hz2.out rfl (by decide) _ (P.outs k0).length (ED.flat (P.outs k0)) rfl ?qc0 ⟨w3.heap.size + 1, 0, none⟩ 1 1 (ED.enc ((i : Int), (k : Int), cmv, (k0 : Int) + 1)) ?qcx ?qc1 ?qc2 ?qc3 ?qc4 ?qc5 ?qc6 ?_))
                case qc0 => exact World.ownsRow.alloc (World.ownsRow.alloc HWK3.out.d _) _
                case qcx => rfl
                case qc1 => rfl
                case qc2 =>
                  intro j z hj
                  match j, hj with
                  | 0, hj => simp [ED] at hj; subst hj; exact World.cell?_alloc_at _ _ _ _ (by simp)
                  | 1, hj => simp [ED] at hj; subst hj; exact World.cell?_alloc_at _ _ _ _ (by simp)
                  | 2, hj => simp [ED] at hj; subst hj; exact World.cell?_alloc_at _ _ _ _ (by simp)
                  | 3, hj => simp [ED] at hj; subst hj; exact World.cell?_alloc_at _ _ _ _ (by simp)
                  | j + 4, hj => simp [ED] at hj
                case qc3 => exact ED.h1 _
                case qc4 => have := HOB.out; unfold maxLen; omega
                case qc5 => have := HOB.out; omega
                case qc6 => have := HWK3.out.sz; simp; omega
                intro v5 w5 hown hgrow hnil
                have ho5 : OwnD w5 (w.heap.size + 2) v5 (P.outs k0 ++ [((i : Int), (k : Int), cmv, (k0 : Int) + 1)]) := own_snoc hown rfl rfl
                have WK := hid ((HWK3.out.below (below_two w3 _ _)).done hgrow ho5)
                have z0 := box_cell WK.out.set 0
                have z1 := box_cell WK.out.set 1
                simp at z0 z1
                clear hown hgrow hnil ho5 hb0 hs0 hs1 y0 y5 c5 fz
                go_wp2_with (first | (go_at_call 72; refine (HNX.out _ (HS.out.below WK.out.bel (Nat.le_refl _))).mono ?_; rintro r w9 ⟨t9, e9, rfl, hx9, ht9, ht99, hb9⟩; have HX9 := hid hx9; have WK9 := hid (WK.out.below hb9); clear hb9 hx9))
                go_roundw
                case rel =>
                  obtain ⟨f1, f2, f3, f4, f5⟩ := HW.out
                  have e1 := HP3.out.length_eq
                  have e2 := HQL.out
                  simp at e1
                  refine ⟨k0 + 1, m, l3, vS g (ql - 1) cq, v5, _, cj, (nk + 1), t9, e9, rfl, rfl, by rw [f3, SK3.out], rfl, rfl, by omega, by omega, ht9, ht99, by omega, by omega, HX9, (⟨?_, ?_, ?_, ?_⟩ : Inv _ _ _ _ _ _ _ _ _ _ _)⟩
                  · rw [f2, if_pos HF1.out]; exact WK9.out
                  · exact f5 HF1.out l3 (by rw [HGD.out]; exact HP3.out) (by rw [show l3.length = ql - 1 by omega]; exact HH3.out)
                  · exact HIN.out.h.later (by omega)
                  · exact HIN.out.r
                case measure => exact mz_less (by omega) (by omega) (by omega) HX9.out
              · have hdec : hq.set 0 { hq[0] with f := P.Lf k0 i k - 1 } = dec hq := by unfold dec; rw [hdx, hg0]; rfl
                have WK2 := hS2 (P.Lf k0 i k - 1)
                rw [hdec] at WK2
                have hdl : (dec hq).length = hq.length := by simp [dec]
                have y0 := box_cell WK2.box 0
                have y5 := WK2.q.cell 0 5 (by rw [hdl]; exact hq00) (by decide)
                have hd0 : ((dec hq)[0]'(by rw [hdl]; exact hq00)).f = P.Lf k0 i k - 1 := by
                  unfold dec
                  simp only [List.getElem_set_self, hg0]
                  rfl
                simp [EJ] at y0 y5
                rw [hd0] at y5
                have WK := hid WK2
                have z0 := box_cell WK2.set 0
                have z1 := box_cell WK2.set 1
                simp at z0 z1
                have HW := hid hwk
                have HF1 := hid hf1
                generalize hflv : P.Lf k0 i k = flv at *
                have hfz : (flv - 1 == 0) = false := by simp; omega
                clear hql hwk hdl hd0 WK2 hdec hS2 hdx hgt5 hf5 hg0 hfq hbest hflv
                generalize hql0 : hq.length = ql at *
                have hqz : (ql : Int) ≠ 0 := by omega
                have hqz2 : ((ql : Int) == 0) = false := by simp; omega
                have hq1 : (0 : Int) < (ql : Int) := by omega
                go_wp2_with (first | (go_at_call 72; refine (HNX.out _ (HS.out.below WK.out.bel (Nat.le_refl _))).mono ?_; rintro r w9 ⟨t9, e9, rfl, hx9, ht9, ht99, hb9⟩; have HX9 := hid hx9; have WK9 := hid (WK.out.below hb9); clear hb9 hx9))
                go_roundw
                case rel =>
                  obtain ⟨f1, f2, f3, f4, f5⟩ := HW.out
                  refine ⟨k0 + 1, m, dec hq, vS g ql cq, vd, _, cj, (nk + 1), t9, e9, rfl, rfl, by rw [f3, SK3.out], rfl, rfl, by omega, by omega, ht9, ht99, by omega, by omega, HX9, (⟨?_, ?_, ?_, ?_⟩ : Inv _ _ _ _ _ _ _ _ _ _ _)⟩
                  · rw [f2, if_neg HF1.out, List.append_nil]; exact WK9.out
                  · exact f4 HF1.out
                  · exact HIN.out.h.later (by omega)
                  · exact HIN.out.r
                case measure => exact mz_less (by omega) (by omega) (by omega) HX9.out
    · have hfin : P.outs T.toNat = P.outs u ∧ P.idles T.toNat = P.idles u := by
        have hh := HT.out
        have := skip (P := P) HJ.out.ok (u := u) (t := T.toNat) (by omega) (fun x x1 x2 => by
          rcases HX.out with ⟨e0, k0, rfl, h1, h2, h3⟩ | ⟨_, _, h3⟩
          · exact h3 x x1 (by
              by_cases hlt : x < k0
              · exact hlt
              · exact absurd (show e = 0 ∧ (k0 : Int) < T from ⟨e0, by omega⟩) hgo)
          · exact h3 x x1)
        exact ⟨this.2.1, this.2.2⟩
      have HF := hid hfin
      have WK := hid HI.out.k
      obtain ⟨hid0, hid1⟩ := idles_bd P HJ.out.ok u
      have hcase : e ≠ 0 ∨ (e = 0 ∧ T ≤ t) := by omega
      clear hfin hgo
      rcases hcase with hc | ⟨rfl, hc⟩
      · have hc2 : (e == 0) = false := by simpa using hc
        go_wp2_with fail
        go_ret2
        exact ⟨⟨vd, by rw [HF.out.2]; rfl, by rw [HF.out.1]; exact WK.out.d.base (by omega)⟩, WK.out.bel⟩
      · have hc2 : ¬ t < T := by omega
        go_wp2_with fail
        go_ret2
        exact ⟨⟨vd, by rw [HF.out.2]; rfl, by rw [HF.out.1]; exact WK.out.d.base (by omega)⟩, WK.out.bel⟩
end PlayC
end Go.Proofs.Ytpnahhpkaegeeaa
