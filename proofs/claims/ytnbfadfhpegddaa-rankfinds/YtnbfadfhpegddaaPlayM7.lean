/- Plain mathematics of plays: what is worked at; tasks behind others. -/
import Derived.Test.YtnbfadfhpegddaaPlayM6
set_option linter.unusedVariables false
namespace Go.Proofs.Ytnbfadfhpegddaa
open SpanM SupM TaskM
namespace PlayM
theorem sum_one {f g : Nat → Int} {n b : Nat} (hb : b < n) (ho : ∀ i, i ≠ b → g i = f i) : sumP (fun _ => true) g n = sumP (fun _ => true) f n + (g b - f b) := by
  induction n with
  | zero => omega
  | succ n ih =>
    simp only [sumP, if_true]
    by_cases c : b = n
    · subst c
      rw [sumP_eq (f := g) (g := f) fun i hi _ => ho i (by omega)]; omega
    · rw [ih (by omega), ho n (by omega)]; omega
namespace Pl
theorem fresh {P : Pl} (hP : P.Ok) {t i k : Nat} (hi : i < P.l.length) (h : (t : Int) ≤ P.cm i k) : P.Lf t i k = (P.tk i).1 := by
  induction t with
  | zero => rfl
  | succ t ih =>
    have e0 := ih (by omega)
    show P.next (P.Lf t) t i k = _
    rcases cases1 hP (P.Lf t) t with ⟨_, _, e, _⟩ | ⟨_, _, _, e, _⟩ | ⟨j, m, _, _, hb, e, _⟩
    · rw [e]; exact e0
    · rw [e]; exact e0
    · rw [e]
      by_cases c : i = j ∧ k = m
      · have := hb.1.2.1
        rw [← c.1, ← c.2] at this
        omega
      · rw [less_other _ c]; exact e0
theorem Lf_le {P : Pl} (hP : P.Ok) (t i k : Nat) : P.Lf t i k ≤ (P.tk i).1 := Lf_anti hP (Nat.zero_le t) i k
/-- of one job no more is done than there are times -/
theorem took {P : Pl} (hP : P.Ok) {s t : Nat} (h : s ≤ t) (i k : Nat) : P.Lf s i k - P.Lf t i k ≤ av P.on t - av P.on s := by
  obtain ⟨n, rfl⟩ : ∃ n, t = s + n := ⟨t - s, by omega⟩
  clear h
  induction n with
  | zero => simp
  | succ n ih =>
    rw [show s + (n + 1) = s + n + 1 by omega]
    simp only [av]
    have : P.Lf (s + n + 1) = P.next (P.Lf (s + n)) (s + n) := rfl
    rw [this]
    rcases cases1 hP (P.Lf (s + n)) (s + n) with ⟨ho, _, e, _⟩ | ⟨ho, _, _, e, _⟩ | ⟨j, m, ho, _, hb, e, _⟩
    · rw [e, ho]; simp; omega
    · rw [e, ho]; simp; omega
    · rw [e, ho]
      simp only [if_true]
      by_cases c : i = j ∧ k = m
      · rw [c.1, c.2] at ih ⊢
        rw [less_at]; omega
      · rw [less_other _ c]; omega
/-- how many jobs of a task are done -/
noncomputable def dn (P : Pl) : Nat → Nat → Nat
  | 0 => fun _ => 0
  | t + 1 => fun i => P.dn t i + (match P.ch (P.Lf t) t with | none => 0 | some b => if b.1 = i ∧ P.Lf t b.1 b.2 = 1 then 1 else 0)
theorem dn_none {P : Pl} {t : Nat} (h : P.ch (P.Lf t) t = none) (i : Nat) : P.dn (t + 1) i = P.dn t i := by
  show P.dn t i + _ = _
  rw [h]; rfl
theorem dn_some {P : Pl} {t j m : Nat} (h : P.ch (P.Lf t) t = some (j, m)) (i : Nat) : P.dn (t + 1) i = P.dn t i + (if j = i ∧ P.Lf t j m = 1 then 1 else 0) := by
  show P.dn t i + _ = _
  rw [h]
theorem order {P : Pl} (hP : P.Ok) (t : Nat) : (∀ i, i < P.l.length → (∀ k, k < P.dn t i → P.Lf t i k = 0) ∧ 0 < P.Lf t i (P.dn t i) ∧ ∀ k, P.dn t i < k → P.Lf t i k = (P.tk i).1) ∧ ∀ i m, P.Best (P.Lf t) t i m → m = P.dn t i := by
  have first : ∀ t, (∀ i, i < P.l.length → (∀ k, k < P.dn t i → P.Lf t i k = 0) ∧ 0 < P.Lf t i (P.dn t i) ∧ ∀ k, P.dn t i < k → P.Lf t i k = (P.tk i).1) → ∀ i m, P.Best (P.Lf t) t i m → m = P.dn t i := by
    intro t h i m hb
    obtain ⟨h1, h2, h3⟩ := h i hb.1.1
    by_cases c : m < P.dn t i
    · have := h1 m c
      have := hb.1.2.2
      omega
    · by_cases d : m = P.dn t i
      · exact d
      · exfalso
        have lt : P.dn t i < m := by omega
        have la := hP.later hb.1.1 lt
        have bf := hb.2 i (P.dn t i) ⟨hb.1.1, by have := hb.1.2.1; omega, h2⟩
        unfold Bef ky du at bf
        split at bf <;> omega
  have main : ∀ i, i < P.l.length → (∀ k, k < P.dn t i → P.Lf t i k = 0) ∧ 0 < P.Lf t i (P.dn t i) ∧ ∀ k, P.dn t i < k → P.Lf t i k = (P.tk i).1 := by
    induction t with
    | zero =>
      intro i hi
      have g := (hP.at hi).2.2.2.2.1
      exact ⟨fun k hk => by simp [dn] at hk, by show 0 < (P.tk i).1; omega, fun k _ => rfl⟩
    | succ t ih =>
      intro i hi
      obtain ⟨h1, h2, h3⟩ := ih i hi
      have hn : P.Lf (t + 1) = P.next (P.Lf t) t := rfl
      rcases cases1 hP (P.Lf t) t with ⟨_, hc, e, _⟩ | ⟨_, hc, _, e, _⟩ | ⟨j, m, _, hc, hb, e, _⟩
      · rw [dn_none hc, hn, e]; exact ⟨h1, h2, h3⟩
      · rw [dn_none hc, hn, e]; exact ⟨h1, h2, h3⟩
      · have hm := first t ih j m hb
        rw [dn_some hc, hn, e]
        by_cases c : j = i
        · subst c
          have g := (hP.at hi).2.2.2.2.1
          have pos := hb.1.2.2
          by_cases o : P.Lf t j m = 1
          · rw [if_pos ⟨rfl, o⟩]
            refine ⟨fun k hk => ?_, ?_, fun k hk => ?_⟩
            · by_cases q : k = m
              · rw [q, less_at, o]; rfl
              · rw [less_other _ (by omega)]; exact h1 k (by omega)
            · rw [less_other _ (by omega), h3 _ (by omega)]; omega
            · rw [less_other _ (by omega)]; exact h3 k (by omega)
          · rw [if_neg (fun h => o h.2), Nat.add_zero]
            refine ⟨fun k hk => ?_, ?_, fun k hk => ?_⟩
            · rw [less_other _ (by omega)]; exact h1 k hk
            · rw [← hm, less_at]; omega
            · rw [less_other _ (by omega)]; exact h3 k hk
        · rw [if_neg (fun h => c h.1), Nat.add_zero]
          refine ⟨fun k hk => ?_, ?_, fun k hk => ?_⟩
          · rw [less_other _ (by omega)]; exact h1 k hk
          · rw [less_other _ (by omega)]; exact h2
          · rw [less_other _ (by omega)]; exact h3 k hk
  exact ⟨main, first t main⟩
/-- how many of a list are of a task -/
def ofTask (d : List Dn) (i : Int) : Nat := d.countP fun x => decide (x.1 = i)
theorem ofTask_outs {P : Pl} (hP : P.Ok) (t i : Nat) : ofTask (P.outs t) (i : Int) = P.dn t i := by
  induction t with
  | zero => rfl
  | succ t ih =>
    show ofTask (P.outs t ++ P.out1 (P.Lf t) t) i = _
    unfold ofTask at ih ⊢
    rw [List.countP_append, ih]
    rcases cases1 hP (P.Lf t) t with ⟨_, hc, _, e, _⟩ | ⟨_, hc, _, _, e, _⟩ | ⟨j, m, _, hc, hb, _, e, _⟩
    · rw [dn_none hc, e]; rfl
    · rw [dn_none hc, e]; rfl
    · rw [dn_some hc, e]
      by_cases o : P.Lf t j m = 1
      · by_cases c : j = i
        · rw [if_pos o, if_pos ⟨c, o⟩]; simp [c]
        · rw [if_pos o, if_neg (fun h => c h.1)]; simp; omega
      · rw [if_neg o, if_neg (fun h => o h.2)]; rfl
/-- each has as many of its task ahead of it as its number says, and is done behind all of them -/
def InOrder (d : List Dn) : Prop := ∀ pre x post, d = pre ++ x :: post → x.2.1 = (ofTask pre x.1 : Int) ∧ ∀ y ∈ pre, y.2.2.2 < x.2.2.2
theorem InOrder.snoc {d : List Dn} {x : Dn} (h : InOrder d) (h1 : x.2.1 = (ofTask d x.1 : Int)) (h2 : ∀ y ∈ d, y.2.2.2 < x.2.2.2) : InOrder (d ++ [x]) := by
  intro pre y post e
  rcases List.eq_nil_or_concat post with rfl | ⟨post', z, rfl⟩
  · have e' : d ++ [x] = pre ++ [y] := e
    obtain ⟨e1, e2⟩ := List.append_inj' e' rfl
    simp only [List.cons.injEq, and_true] at e2
    subst e1 e2
    exact ⟨h1, h2⟩
  · rw [List.concat_eq_append] at e
    have e' : d ++ [x] = (pre ++ y :: post') ++ [z] := by rw [e]; simp
    obtain ⟨e1, _⟩ := List.append_inj' e' rfl
    exact h pre y post' e1
theorem outs_at {P : Pl} (hP : P.Ok) {t : Nat} {y : Dn} (h : y ∈ P.outs t) : y.2.2.2 ≤ t := by
  obtain ⟨u, i, k, h1, _, _, _, rfl⟩ := (mem_outs hP t y).1 h
  simp only; omega
theorem outs_order {P : Pl} (hP : P.Ok) (t : Nat) : InOrder (P.outs t) := by
  induction t with
  | zero => intro pre x post e; simp [outs] at e
  | succ t ih =>
    show InOrder (P.outs t ++ P.out1 (P.Lf t) t)
    rcases cases1 hP (P.Lf t) t with ⟨_, hc, _, e, _⟩ | ⟨_, hc, _, _, e, _⟩ | ⟨j, m, _, hc, hb, _, e, _⟩
    · rw [e, List.append_nil]; exact ih
    · rw [e, List.append_nil]; exact ih
    · rw [e]
      split
      · refine ih.snoc ?_ ?_
        · simp only
          rw [ofTask_outs hP, ← (order hP t).2 j m hb]
        · intro y hy
          have := outs_at hP hy
          simp only; omega
      · rw [List.append_nil]; exact ih
/-- how long those of a list take -/
def wk (P : Pl) (d : List Dn) : Int := (d.map fun x => (P.tk x.1.toNat).1).sum
theorem wk_snoc (P : Pl) (d : List Dn) (x : Dn) : P.wk (d ++ [x]) = P.wk d + (P.tk x.1.toNat).1 := by simp [wk]
theorem worked {P : Pl} (hP : P.Ok) (t : Nat) : P.wk (P.outs t) + sumP (fun _ => true) (fun i => (P.tk i).1 - P.Lf t i (P.dn t i)) P.l.length + P.idles t = av P.on t := by
  induction t with
  | zero =>
    have : sumP (fun _ => true) (fun i => (P.tk i).1 - P.Lf 0 i (P.dn 0 i)) P.l.length = 0 := by
      have e : ∀ n, sumP (fun _ => true) (fun i => (P.tk i).1 - P.Lf 0 i (P.dn 0 i)) n = 0 := by
        intro n
        induction n with
        | zero => rfl
        | succ n ih =>
          simp only [sumP, ih, if_true]
          show 0 + ((P.tk n).1 - (P.tk n).1) = 0
          omega
      exact e _
    rw [this]; simp [wk, outs, idles, av]
  | succ t ih =>
    have hn : P.Lf (t + 1) = P.next (P.Lf t) t := rfl
    have ho : P.outs (t + 1) = P.outs t ++ P.out1 (P.Lf t) t := rfl
    have hid : P.idles (t + 1) = P.idles t + P.idle1 (P.Lf t) t := rfl
    have hav : av P.on (t + 1) = av P.on t + (if P.on t = true then 1 else 0) := rfl
    rw [hn, ho, hid, hav]
    rcases cases1 hP (P.Lf t) t with ⟨q, hc, e, o, d⟩ | ⟨q, hc, _, e, o, d⟩ | ⟨j, m, q, hc, hb, e, o, d⟩
    · rw [e, o, d, q, List.append_nil, sumP_eq (g := fun i => (P.tk i).1 - P.Lf t i (P.dn t i)) fun i _ _ => by rw [dn_none hc]]
      simp; omega
    · rw [e, o, d, q, List.append_nil, sumP_eq (g := fun i => (P.tk i).1 - P.Lf t i (P.dn t i)) fun i _ _ => by rw [dn_none hc]]
      simp; omega
    · have hm := (order hP t).2 j m hb
      have g3 := ((order hP t).1 j hb.1.1).2.2 (m + 1) (by omega)
      have hs := sum_one (f := fun i => (P.tk i).1 - P.Lf t i (P.dn t i)) (g := fun i => (P.tk i).1 - less (P.Lf t) (j, m) i (P.dn (t + 1) i)) (n := P.l.length) (b := j) hb.1.1 (fun i hi => by
        show (P.tk i).1 - less (P.Lf t) (j, m) i (P.dn (t + 1) i) = (P.tk i).1 - P.Lf t i (P.dn t i)
        rw [dn_some hc, if_neg (fun h => hi h.1.symm), Nat.add_zero, less_other _ (fun h => hi h.1)])
      rw [e, o, d, q, hs]
      simp only [if_true]
      rw [dn_some hc]
      by_cases one : P.Lf t j m = 1
      · rw [if_pos one, if_pos ⟨rfl, one⟩, wk_snoc, ← hm, less_other _ (by omega), g3, one]
        try simp only [Int.toNat_natCast]
        omega
      · rw [if_neg one, if_neg (fun h => one h.2), List.append_nil, Nat.add_zero, ← hm, less_at]
        omega
theorem work_le {P : Pl} (hP : P.Ok) (t : Nat) : P.wk (P.outs t) + P.idles t ≤ av P.on t := by
  have a := worked hP t
  have b := sumP_nonneg (P := fun _ => true) (f := fun i => (P.tk i).1 - P.Lf t i (P.dn t i)) (n := P.l.length) (fun i _ _ => by have := Lf_le hP t i (P.dn t i); omega)
  omega
/-- between when it came and when it was done there were enough times -/
theorem took_long {P : Pl} (hP : P.Ok) {T : Nat} {x : Dn} (h : x ∈ P.outs T) : ∃ i k : Nat, i < P.l.length ∧ x.1 = (i : Int) ∧ x.2.1 = (k : Int) ∧ x.2.2.1 = P.cm i k ∧ 0 ≤ P.cm i k ∧ P.cm i k < x.2.2.2 ∧ x.2.2.2 ≤ T ∧ (P.tk i).1 ≤ cb P.size P.sl x.2.2.2 - cb P.size P.sl x.2.2.1 := by
  obtain ⟨t, i, k, h1, h2, h3, h4, rfl⟩ := (mem_outs hP T x).1 h
  have c0 := (hP.come h3.1.1 k).2
  have c1 := h3.1.2.1
  refine ⟨i, k, h3.1.1, rfl, rfl, rfl, c0, by simp only; omega, by simp only; omega, ?_⟩
  simp only
  have z : P.Lf (t + 1) i k = 0 := (zero_iff hP (t + 1) h3.1.1 k).2 ⟨t, by omega, h2, h3, h4⟩
  have f := fresh hP (t := (P.cm i k).toNat) (i := i) (k := k) h3.1.1 (by omega)
  have a := took hP (s := (P.cm i k).toNat) (t := t + 1) (by omega) i k
  rw [z, f] at a
  have e1 := av_cb hP.s1 hP.sg (t + 1)
  have e2 := av_cb hP.s1 hP.sg (P.cm i k).toNat
  have e3 : (((P.cm i k).toNat : Nat) : Int) = P.cm i k := by omega
  rw [e3] at e2
  have e4 : av P.on (t + 1) = cb P.size P.sl ((t + 1 : Nat) : Int) := e1
  have e5 : av P.on (P.cm i k).toNat = cb P.size P.sl (P.cm i k) := e2
  rw [e4, e5] at a
  have e6 : ((t + 1 : Nat) : Int) = (t : Int) + 1 := by omega
  rw [e6] at a
  omega
/-! tasks behind others -/
def front (P : Pl) (k : Nat) : Pl := { P with l := P.l.take k, f := P.f.take k }
theorem front_ok {P : Pl} (hP : P.Ok) (k : Nat) : (P.front k).Ok where
  tk := fun x hx => hP.tk x (List.mem_of_mem_take hx)
  len := by show (P.f.take k).length = (P.l.take k).length; rw [List.length_take, List.length_take, hP.len]
  f0 := fun x hx => hP.f0 x (List.mem_of_mem_take hx)
  s1 := hP.s1
  sg := hP.sg
theorem front_cm (P : Pl) {k i : Nat} (hi : i < k) (m : Nat) : (P.front k).cm i m = P.cm i m ∧ (P.front k).tk i = P.tk i := by
  have e1 : (P.front k).tk i = P.tk i := by
    show (P.l.take k).getD i _ = P.l.getD i _
    simp [List.getD, hi]
  have e2 : (P.front k).f.getD i 0 = P.f.getD i 0 := by
    show (P.f.take k).getD i 0 = P.f.getD i 0
    simp [List.getD, hi]
  exact ⟨by unfold cm; rw [e1, e2], e1⟩
theorem ahead_same {P : Pl} (hP : P.Ok) (hp : P.pol ≠ 1) (k t : Nat) : (∀ i m, i < k → (P.front k).Lf t i m = P.Lf t i m) ∧ (P.front k).outs t = (P.outs t).filter (fun d => decide (d.1 < (k : Int))) := by
  have hF := front_ok hP k
  induction t with
  | zero =>
    refine ⟨fun i m hi => ?_, rfl⟩
    show ((P.front k).tk i).1 = (P.tk i).1
    rw [(front_cm P hi 0).2]
  | succ t ih =>
    obtain ⟨ih1, ih2⟩ := ih
    have hlen : (P.front k).l.length = min k P.l.length := by show (P.l.take k).length = _; rw [List.length_take]
    have pn : ∀ i m, (P.front k).Pn ((P.front k).Lf t) t i m ↔ i < k ∧ P.Pn (P.Lf t) t i m := by
      intro i m
      unfold Pn
      rw [hlen]
      constructor
      · rintro ⟨h1, h2, h3⟩
        have hi : i < k := by omega
        rw [(front_cm P hi m).1] at h2
        rw [ih1 i m hi] at h3
        exact ⟨hi, by omega, h2, h3⟩
      · rintro ⟨hi, h1, h2, h3⟩
        rw [(front_cm P hi m).1, ih1 i m hi]
        exact ⟨by omega, h2, h3⟩
    have on' : (P.front k).on t = P.on t := rfl
    have n1 : P.Lf (t + 1) = P.next (P.Lf t) t := rfl
    have n2 : (P.front k).Lf (t + 1) = (P.front k).next ((P.front k).Lf t) t := rfl
    have o1 : P.outs (t + 1) = P.outs t ++ P.out1 (P.Lf t) t := rfl
    have o2 : (P.front k).outs (t + 1) = (P.front k).outs t ++ (P.front k).out1 ((P.front k).Lf t) t := rfl
    rw [n1, n2, o1, o2, List.filter_append, ih2]
    rcases cases1 hP (P.Lf t) t with ⟨q, hc, e, o, _⟩ | ⟨q, hc, hn, e, o, _⟩ | ⟨j, m, q, hc, hb, e, o, _⟩
    · rcases cases1 hF ((P.front k).Lf t) t with ⟨_, _, e', o', _⟩ | ⟨q', _⟩ | ⟨_, _, q', _⟩
      · rw [e, o, e', o']; exact ⟨ih1, rfl⟩
      · rw [on', q] at q'; simp at q'
      · rw [on', q] at q'; simp at q'
    · rcases cases1 hF ((P.front k).Lf t) t with ⟨q', _⟩ | ⟨_, _, _, e', o', _⟩ | ⟨_, _, _, _, hb', _⟩
      · rw [on', q] at q'; simp at q'
      · rw [e, o, e', o']; exact ⟨ih1, rfl⟩
      · exact absurd ((pn _ _).1 hb'.1).2 (hn _ _)
    · by_cases c : j < k
      · have hb' : (P.front k).Best ((P.front k).Lf t) t j m := by
          refine ⟨(pn j m).2 ⟨c, hb.1⟩, fun i n hpn => ?_⟩
          obtain ⟨hi, hpn'⟩ := (pn i n).1 hpn
          have := hb.2 i n hpn'
          have hp' : (P.front k).pol ≠ 1 := hp
          unfold Bef ky at this ⊢
          rw [if_neg hp, if_neg hp] at this
          rw [if_neg hp', if_neg hp']
          exact this
        rcases cases1 hF ((P.front k).Lf t) t with ⟨q', _⟩ | ⟨_, _, hn', _⟩ | ⟨j', m', _, _, hb2, e', o', _⟩
        · rw [on', q] at q'; simp at q'
        · exact absurd hb'.1 (hn' _ _)
        · obtain ⟨rfl, rfl⟩ := hb2.one hb'
          rw [e, o, e', o', ih1 j' m' c, (front_cm P c m').1]
          refine ⟨fun i n hi => ?_, ?_⟩
          · by_cases d : i = j' ∧ n = m'
            · obtain ⟨rfl, rfl⟩ := d
              rw [less_at, less_at, ih1 i n hi]
            · rw [less_other _ d, less_other _ d, ih1 i n hi]
          · split
            · rw [List.filter_cons, if_pos (by simp only [decide_eq_true_eq]; omega)]; rfl
            · rfl
      · have none' : ∀ i n, ¬ (P.front k).Pn ((P.front k).Lf t) t i n := by
          intro i n hpn
          obtain ⟨hi, hpn'⟩ := (pn i n).1 hpn
          have := hb.2 i n hpn'
          unfold Bef ky at this
          rw [if_neg hp, if_neg hp] at this
          omega
        rcases cases1 hF ((P.front k).Lf t) t with ⟨q', _⟩ | ⟨_, _, _, e', o', _⟩ | ⟨_, _, _, _, hb', _⟩
        · rw [on', q] at q'; simp at q'
        · rw [e, o, e', o']
          refine ⟨fun i n hi => ?_, ?_⟩
          · rw [less_other _ (by omega)]; exact ih1 i n hi
          · split
            · rw [List.filter_cons, if_neg (by simp only [decide_eq_true_eq]; omega)]; rfl
            · rfl
        · exact absurd hb'.1 (none' _ _)
end Pl
end PlayM
end Go.Proofs.Ytnbfadfhpegddaa
