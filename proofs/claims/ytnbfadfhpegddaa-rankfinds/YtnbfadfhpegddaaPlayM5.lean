/- Plain mathematics of plays: a play of tasks, time by time, as the document tells it. -/
import Derived.Test.YtnbfadfhpegddaaPlayM4
set_option linter.unusedVariables false
namespace Go.Proofs.Ytnbfadfhpegddaa
open SpanM SupM TaskM
namespace PlayM
/-- tasks, when each begins to come, the set, who goes first -/
structure Pl where
  l : List Tk
  f : List Int
  size : Int
  sl : List Sp
  pol : Int
namespace Pl
def tk (P : Pl) (i : Nat) : Tk := P.l.getD i (0, 0, 0)
/-- when the job k of the task i comes, and is due -/
def cm (P : Pl) (i k : Nat) : Int := P.f.getD i 0 + (k : Int) * (P.tk i).2.1
def du (P : Pl) (i k : Nat) : Int := P.cm i k + (P.tk i).2.2
structure Ok (P : Pl) : Prop where
  tk : ∀ x ∈ P.l, tok x
  len : P.f.length = P.l.length
  f0 : ∀ x ∈ P.f, 0 ≤ x
  s1 : 1 ≤ P.size
  sg : good P.size (-1) P.sl = true
theorem Ok.at {P : Pl} (h : P.Ok) {i : Nat} (hi : i < P.l.length) : tok (P.tk i) := h.tk _ (by unfold Pl.tk; simp [List.getD, hi])
theorem Ok.first {P : Pl} (h : P.Ok) (i : Nat) : 0 ≤ P.f.getD i 0 := by
  by_cases hi : i < P.f.length
  · exact h.f0 _ (by simp [List.getD, hi])
  · simp [List.getD, List.getElem?_eq_none (show P.f.length ≤ i by omega)]
theorem Ok.come {P : Pl} (h : P.Ok) {i : Nat} (hi : i < P.l.length) (k : Nat) : (k : Int) ≤ P.cm i k ∧ 0 ≤ P.cm i k := by
  have a := h.first i
  have b := (h.at hi).1
  have c : (k : Int) * 1 ≤ (k : Int) * (P.tk i).2.1 := Int.mul_le_mul_of_nonneg_left b (by omega)
  unfold cm
  omega
theorem Ok.later {P : Pl} (h : P.Ok) {i : Nat} (hi : i < P.l.length) {k m : Nat} (hk : k < m) : P.cm i k < P.cm i m := by
  have b := (h.at hi).1
  have c : ((k : Int) + 1) * (P.tk i).2.1 ≤ (m : Int) * (P.tk i).2.1 := Int.mul_le_mul_of_nonneg_right (by omega) (by omega)
  rw [Int.add_mul] at c
  unfold cm
  omega
theorem Ok.due {P : Pl} (h : P.Ok) {i : Nat} (hi : i < P.l.length) (k : Nat) : P.cm i k < P.du i k := by
  have := (h.at hi).2.2.1
  unfold du; omega
/-- has come, and something is left of it -/
def Pn (P : Pl) (L : Nat → Nat → Int) (t i k : Nat) : Prop := i < P.l.length ∧ P.cm i k ≤ t ∧ 0 < L i k
def ky (P : Pl) (i k : Nat) : Int := if P.pol = 1 then P.du i k else 0
/-- goes ahead of it -/
def Bef (P : Pl) (i k j m : Nat) : Prop := P.ky i k < P.ky j m ∨ (P.ky i k = P.ky j m ∧ (i < j ∨ (i = j ∧ k ≤ m)))
/-- is worked at -/
def Best (P : Pl) (L : Nat → Nat → Int) (t i k : Nat) : Prop := P.Pn L t i k ∧ ∀ j m, P.Pn L t j m → P.Bef i k j m
theorem Best.one {P : Pl} {L : Nat → Nat → Int} {t i k j m : Nat} (h : P.Best L t i k) (h' : P.Best L t j m) : i = j ∧ k = m := by
  have a := h.2 j m h'.1
  have b := h'.2 i k h.1
  unfold Bef at a b
  omega
theorem min_of {α : Type} (Q : α → Prop) (g : α → Nat) (h : ∃ x, Q x) : ∃ x, Q x ∧ ∀ y, Q y → g x ≤ g y := by
  obtain ⟨x, hx⟩ := h
  have : ∀ n x, g x = n → Q x → ∃ x, Q x ∧ ∀ y, Q y → g x ≤ g y := by
    intro n
    induction n using Nat.strongRecOn with
    | ind n ih =>
      intro x hn hx
      by_cases c : ∃ y, Q y ∧ g y < n
      · obtain ⟨y, hy, hl⟩ := c
        exact ih (g y) hl y rfl hy
      · refine ⟨x, hx, fun y hy => ?_⟩
        by_cases d : g x ≤ g y
        · exact d
        · exact absurd ⟨y, hy, by omega⟩ c
  exact this (g x) x rfl hx
theorem best_ex {P : Pl} (hP : P.Ok) {L : Nat → Nat → Int} {t : Nat} (h : ∃ i k, P.Pn L t i k) : ∃ i k, P.Best L t i k := by
  have hky : ∀ i k, P.Pn L t i k → 0 ≤ P.ky i k := fun i k hp => by
    unfold ky
    split
    · have := (hP.come hp.1 k).2
      have := hP.due hp.1 k
      omega
    · omega
  obtain ⟨i0, k0, h0⟩ := h
  obtain ⟨b, b1, b2⟩ := min_of (fun b : Nat × Nat => P.Pn L t b.1 b.2) (fun b => (P.ky b.1 b.2).toNat) ⟨(i0, k0), h0⟩
  obtain ⟨c, ⟨c1, c2⟩, c3⟩ := min_of (fun c : Nat × Nat => P.Pn L t c.1 c.2 ∧ P.ky c.1 c.2 = P.ky b.1 b.2) (fun c => c.1) ⟨b, b1, rfl⟩
  obtain ⟨d, ⟨d1, d2, d3⟩, d4⟩ := min_of (fun d : Nat × Nat => P.Pn L t d.1 d.2 ∧ P.ky d.1 d.2 = P.ky b.1 b.2 ∧ d.1 = c.1) (fun d => d.2) ⟨c, c1, c2, rfl⟩
  refine ⟨d.1, d.2, d1, fun j m hp => ?_⟩
  have e1 := b2 (j, m) hp
  have e2 := hky _ _ b1
  have e3 := hky _ _ hp
  simp only at e1
  unfold Bef
  rw [d2]
  by_cases q : P.ky b.1 b.2 < P.ky j m
  · exact .inl q
  · have q1 : P.ky j m = P.ky b.1 b.2 := by omega
    have e4 := c3 (j, m) ⟨hp, q1⟩
    simp only at e4
    refine .inr ⟨q1.symm, ?_⟩
    by_cases q2 : d.1 < j
    · exact .inl q2
    · have e5 := d4 (j, m) ⟨hp, q1, by simp only; omega⟩
      simp only at e5
      exact .inr ⟨by omega, e5⟩
open Classical in
/-- which one is worked at -/
noncomputable def pick (P : Pl) (L : Nat → Nat → Int) (t : Nat) : Option (Nat × Nat) :=
  if h : ∃ b : Nat × Nat, P.Best L t b.1 b.2 then some (Classical.choose h) else none
theorem pick_some {P : Pl} {L : Nat → Nat → Int} {t i k : Nat} : P.pick L t = some (i, k) ↔ P.Best L t i k := by
  unfold pick
  constructor
  · intro h
    split at h
    · rename_i hb
      have := Classical.choose_spec hb
      simp only [Option.some.injEq] at h
      rw [h] at this
      exact this
    · simp at h
  · intro h
    have hb : ∃ b : Nat × Nat, P.Best L t b.1 b.2 := ⟨(i, k), h⟩
    rw [dif_pos hb]
    obtain ⟨e1, e2⟩ := (Classical.choose_spec hb).one h
    rw [Option.some.injEq]
    exact Prod.ext e1 e2
theorem pick_none {P : Pl} (hP : P.Ok) {L : Nat → Nat → Int} {t : Nat} : P.pick L t = none ↔ ∀ i k, ¬ P.Pn L t i k := by
  constructor
  · intro h i k hp
    obtain ⟨j, m, hb⟩ := best_ex hP ⟨i, k, hp⟩
    rw [pick_some.2 hb] at h
    simp at h
  · intro h
    cases hc : P.pick L t with
    | none => rfl
    | some b => exact absurd ((pick_some (i := b.1) (k := b.2)).1 hc).1 (h _ _)
/-- is it a time of the set? -/
def on (P : Pl) (t : Nat) : Bool := inS P.size P.sl t
def less (L : Nat → Nat → Int) (b : Nat × Nat) : Nat → Nat → Int := fun i k => if i = b.1 ∧ k = b.2 then L i k - 1 else L i k
/-- task, job, came, at -/
abbrev Dn := Int × Int × Int × Int
noncomputable def ch (P : Pl) (L : Nat → Nat → Int) (t : Nat) : Option (Nat × Nat) := if P.on t = true then P.pick L t else none
noncomputable def next (P : Pl) (L : Nat → Nat → Int) (t : Nat) : Nat → Nat → Int := match P.ch L t with | none => L | some b => less L b
noncomputable def out1 (P : Pl) (L : Nat → Nat → Int) (t : Nat) : List Dn := match P.ch L t with | none => [] | some b => if L b.1 b.2 = 1 then [((b.1 : Int), (b.2 : Int), P.cm b.1 b.2, (t : Int) + 1)] else []
noncomputable def idle1 (P : Pl) (L : Nat → Nat → Int) (t : Nat) : Int := if P.on t = true ∧ P.pick L t = none then 1 else 0
/-- what is left, what is done, how often nothing was to be done, ahead of t -/
noncomputable def Lf (P : Pl) : Nat → Nat → Nat → Int
  | 0 => fun i _ => (P.tk i).1
  | t + 1 => P.next (P.Lf t) t
noncomputable def outs (P : Pl) : Nat → List Dn
  | 0 => []
  | t + 1 => P.outs t ++ P.out1 (P.Lf t) t
noncomputable def idles (P : Pl) : Nat → Int
  | 0 => 0
  | t + 1 => P.idles t + P.idle1 (P.Lf t) t
/-- one time: nothing happens; nothing is to be done; one is worked at -/
theorem cases1 {P : Pl} (hP : P.Ok) (L : Nat → Nat → Int) (t : Nat) :
    (P.on t = false ∧ P.ch L t = none ∧ P.next L t = L ∧ P.out1 L t = [] ∧ P.idle1 L t = 0) ∨
    (P.on t = true ∧ P.ch L t = none ∧ (∀ i k, ¬ P.Pn L t i k) ∧ P.next L t = L ∧ P.out1 L t = [] ∧ P.idle1 L t = 1) ∨
    ∃ i k, P.on t = true ∧ P.ch L t = some (i, k) ∧ P.Best L t i k ∧ P.next L t = less L (i, k) ∧ P.out1 L t = (if L i k = 1 then [((i : Int), (k : Int), P.cm i k, (t : Int) + 1)] else []) ∧ P.idle1 L t = 0 := by
  cases ho : P.on t with
  | false =>
    have e : P.ch L t = none := by unfold ch; rw [ho]; simp
    exact .inl ⟨rfl, e, by unfold next; rw [e], by unfold out1; rw [e], by unfold idle1; rw [ho]; simp⟩
  | true =>
    have e : P.ch L t = P.pick L t := by unfold ch; rw [ho]; simp
    cases hc : P.pick L t with
    | none =>
      rw [hc] at e
      exact .inr (.inl ⟨rfl, e, (pick_none hP).1 hc, by unfold next; rw [e], by unfold out1; rw [e], by unfold idle1; rw [if_pos ⟨ho, hc⟩]⟩)
    | some b =>
      rw [hc] at e
      exact .inr (.inr ⟨b.1, b.2, rfl, e, pick_some.1 hc, by unfold next; rw [e], by unfold out1; rw [e], by unfold idle1; rw [if_neg (by rw [hc]; simp)]⟩)
theorem less_at (L : Nat → Nat → Int) (i k : Nat) : less L (i, k) i k = L i k - 1 := by simp [less]
theorem less_other (L : Nat → Nat → Int) {i k j m : Nat} (h : ¬ (j = i ∧ m = k)) : less L (i, k) j m = L j m := by simp [less, h]
theorem Lf_down {P : Pl} (hP : P.Ok) (t i k : Nat) : P.Lf (t + 1) i k ≤ P.Lf t i k := by
  show P.next (P.Lf t) t i k ≤ _
  rcases cases1 hP (P.Lf t) t with ⟨_, _, e, _⟩ | ⟨_, _, _, e, _⟩ | ⟨j, m, _, _, _, e, _⟩
  · rw [e]; exact Int.le_refl _
  · rw [e]; exact Int.le_refl _
  · rw [e]
    by_cases c : i = j ∧ k = m
    · rw [c.1, c.2, less_at]; omega
    · rw [less_other _ c]; exact Int.le_refl _
theorem Lf_anti {P : Pl} (hP : P.Ok) {s t : Nat} (h : s ≤ t) (i k : Nat) : P.Lf t i k ≤ P.Lf s i k := by
  obtain ⟨n, rfl⟩ : ∃ n, t = s + n := ⟨t - s, by omega⟩
  clear h
  induction n with
  | zero => exact Int.le_refl _
  | succ n ih =>
    have := Lf_down hP (s + n) i k
    rw [show s + (n + 1) = s + n + 1 by omega]
    omega
theorem Lf_nonneg {P : Pl} (hP : P.Ok) (t : Nat) {i : Nat} (hi : i < P.l.length) (k : Nat) : 0 ≤ P.Lf t i k := by
  induction t with
  | zero => show 0 ≤ (P.tk i).1; have := (hP.at hi).2.2.2.2.1; omega
  | succ t ih =>
    show 0 ≤ P.next (P.Lf t) t i k
    rcases cases1 hP (P.Lf t) t with ⟨_, _, e, _⟩ | ⟨_, _, _, e, _⟩ | ⟨j, m, _, _, hb, e, _⟩
    · rw [e]; exact ih
    · rw [e]; exact ih
    · rw [e]
      by_cases c : i = j ∧ k = m
      · rw [c.1, c.2, less_at]; have := hb.1.2.2; omega
      · rw [less_other _ c]; exact ih
/-- what is done is told -/
theorem mem_outs {P : Pl} (hP : P.Ok) (T : Nat) (d : Dn) : d ∈ P.outs T ↔ ∃ t i k, t < T ∧ P.on t = true ∧ P.Best (P.Lf t) t i k ∧ P.Lf t i k = 1 ∧ d = ((i : Int), (k : Int), P.cm i k, (t : Int) + 1) := by
  induction T with
  | zero => simp [outs]
  | succ T ih =>
    show d ∈ P.outs T ++ P.out1 (P.Lf T) T ↔ _
    rw [List.mem_append, ih]
    constructor
    · rintro (⟨t, i, k, h1, h2⟩ | h)
      · exact ⟨t, i, k, by omega, h2⟩
      · rcases cases1 hP (P.Lf T) T with ⟨_, _, _, e, _⟩ | ⟨_, _, _, _, e, _⟩ | ⟨i, k, ho, _, hb, _, e, _⟩
        · rw [e] at h; simp at h
        · rw [e] at h; simp at h
        · rw [e] at h
          split at h
          · simp only [List.mem_singleton] at h
            exact ⟨T, i, k, by omega, ho, hb, ‹_›, h⟩
          · simp at h
    · rintro ⟨t, i, k, h1, h2, h3, h4, h5⟩
      by_cases c : t < T
      · exact .inl ⟨t, i, k, c, h2, h3, h4, h5⟩
      · obtain rfl : t = T := by omega
        right
        rcases cases1 hP (P.Lf t) t with ⟨ho, _⟩ | ⟨_, _, hn, _⟩ | ⟨j, m, _, _, hb, _, e, _⟩
        · rw [ho] at h2; simp at h2
        · exact absurd h3.1 (hn _ _)
        · obtain ⟨rfl, rfl⟩ := hb.one h3
          rw [e, if_pos h4, h5]; simp
theorem zero_iff {P : Pl} (hP : P.Ok) (T : Nat) {i : Nat} (hi : i < P.l.length) (k : Nat) : P.Lf T i k = 0 ↔ ∃ t, t < T ∧ P.on t = true ∧ P.Best (P.Lf t) t i k ∧ P.Lf t i k = 1 := by
  induction T with
  | zero =>
    constructor
    · intro h
      have h' : (P.tk i).1 = 0 := h
      have := (hP.at hi).2.2.2.2.1
      omega
    · rintro ⟨t, h, _⟩; omega
  | succ T ih =>
    have nn := Lf_nonneg hP T hi k
    constructor
    · intro h
      by_cases c : P.Lf T i k = 0
      · obtain ⟨t, h1, h2⟩ := ih.1 c
        exact ⟨t, by omega, h2⟩
      · have h' : P.next (P.Lf T) T i k = 0 := h
        rcases cases1 hP (P.Lf T) T with ⟨_, _, e, _⟩ | ⟨_, _, _, e, _⟩ | ⟨j, m, ho, _, hb, e, _⟩
        · rw [e] at h'; exact absurd h' c
        · rw [e] at h'; exact absurd h' c
        · rw [e] at h'
          by_cases d : i = j ∧ k = m
          · obtain ⟨rfl, rfl⟩ := d
            rw [less_at] at h'
            exact ⟨T, by omega, ho, hb, by omega⟩
          · rw [less_other _ d] at h'; exact absurd h' c
    · rintro ⟨t, h1, h2, h3, h4⟩
      by_cases c : t < T
      · have := ih.2 ⟨t, c, h2, h3, h4⟩
        have a := Lf_down hP T i k
        have b := Lf_nonneg hP (T + 1) hi k
        omega
      · obtain rfl : t = T := by omega
        show P.next (P.Lf t) t i k = 0
        rcases cases1 hP (P.Lf t) t with ⟨ho, _⟩ | ⟨_, _, hn, _⟩ | ⟨j, m, _, _, hb, e, _⟩
        · rw [ho] at h2; simp at h2
        · exact absurd h3.1 (hn _ _)
        · obtain ⟨rfl, rfl⟩ := hb.one h3
          rw [e, less_at]; omega
/-- in time -/
theorem intime_iff {P : Pl} (hP : P.Ok) {T : Nat} {i : Nat} (hi : i < P.l.length) {k : Nat} (hd : P.du i k ≤ T) : (∃ d ∈ P.outs T, d.1 = (i : Int) ∧ d.2.1 = (k : Int) ∧ d.2.2.2 ≤ P.du i k) ↔ P.Lf (P.du i k).toNat i k = 0 := by
  have h0 : 0 ≤ P.du i k := by have := (hP.come hi k).2; have := hP.due hi k; omega
  rw [zero_iff hP _ hi]
  constructor
  · rintro ⟨d, hm, e1, e2, e3⟩
    obtain ⟨t, j, m, h1, h2, h3, h4, rfl⟩ := (mem_outs hP T d).1 hm
    simp only at e1 e2 e3
    obtain rfl : j = i := by omega
    obtain rfl : m = k := by omega
    exact ⟨t, by omega, h2, h3, h4⟩
  · rintro ⟨t, h1, h2, h3, h4⟩
    exact ⟨_, (mem_outs hP T _).2 ⟨t, i, k, by omega, h2, h3, h4, rfl⟩, rfl, rfl, by simp only; omega⟩
/-! what was done stays -/
theorem outs_more (P : Pl) {T U : Nat} (h : T ≤ U) : ∃ r, P.outs U = P.outs T ++ r := by
  obtain ⟨n, rfl⟩ : ∃ n, U = T + n := ⟨U - T, by omega⟩
  clear h
  induction n with
  | zero => exact ⟨[], by simp⟩
  | succ n ih =>
    obtain ⟨r, e⟩ := ih
    refine ⟨r ++ P.out1 (P.Lf (T + n)) (T + n), ?_⟩
    rw [show T + (n + 1) = T + n + 1 by omega]
    show P.outs (T + n) ++ _ = _
    rw [e]; simp
theorem idles_more (P : Pl) {T U : Nat} (h : T ≤ U) : P.idles T ≤ P.idles U := by
  obtain ⟨n, rfl⟩ : ∃ n, U = T + n := ⟨U - T, by omega⟩
  clear h
  induction n with
  | zero => exact Int.le_refl _
  | succ n ih =>
    rw [show T + (n + 1) = T + n + 1 by omega]
    show _ ≤ P.idles (T + n) + P.idle1 (P.Lf (T + n)) (T + n)
    have : 0 ≤ P.idle1 (P.Lf (T + n)) (T + n) := by unfold idle1; split <;> omega
    omega
end Pl
end PlayM
end Go.Proofs.Ytnbfadfhpegddaa
