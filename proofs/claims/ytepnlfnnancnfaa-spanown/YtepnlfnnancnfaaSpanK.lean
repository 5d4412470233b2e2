/- Sets that a law keeps, and what a law is told. -/
import Derived.Test.YtepnlfnnancnfaaSpanV
import Derived.Test.YtepnlfnnancnfaaSpanO
import Derived.Test.YtepnlfnnancnfaaSpanT2
import Derived.Test.YtepnlfnnancnfaaSpanY
set_option linter.unusedVariables false
namespace Go.Proofs.Ytepnlfnnancnfaa
open Go.RowKit
open SpanM
namespace SpanC
/-- a set that lies in a block of a law's own -/
structure Cell (W : World) (b : Nat) (s : Int) (a : Option Addr) (c : Nat) (r : List Sp) : Prop where
  lt : b < W.heap.size
  c0 : W.cell? ⟨b, 0, none⟩ = some (.int .i64 s)
  c1 : W.cell? ⟨b, 1, none⟩ = some (.slice a r.length c)
  sp : Sps W a r
  nz : a = none → c = 0
  ml : r.length ≤ maxLen
theorem Cell.step {W W' : World} {b : Nat} {s : Int} {a : Option Addr} {c : Nat} {r : List Sp} (h : Cell W b s a c r) (hb : Below W.heap.size W W') : Cell W' b s a c r where
  lt := Nat.lt_of_lt_of_le h.lt hb.size
  c0 := (hb.cell h.lt).trans h.c0
  c1 := (hb.cell h.lt).trans h.c1
  sp := h.sp.below hb (Nat.le_refl _)
  nz := h.nz
  ml := h.ml
theorem Cell.alloc {W : World} {b : Nat} {s : Int} {a : Option Addr} {c : Nat} {r : List Sp} (h : Cell W b s a c r) (o : Obj) : Cell (W.alloc o) b s a c r := h.step (Below.alloc (Below.refl _ _) (Nat.le_refl _) _)
theorem Cell.new {W : World} {s : Int} {a : Option Addr} {c : Nat} {r : List Sp} (h : Sps W a r) (nz : a = none → c = 0) (ml : r.length ≤ maxLen) : Cell (W.alloc (.cells #[.int .i64 s, .slice a r.length c] 24)) W.heap.size s a c r where
  lt := by simp
  c0 := World.cell?_alloc_at _ _ _ _ rfl
  c1 := World.cell?_alloc_at _ _ _ _ rfl
  sp := h.below (Below.alloc (Below.refl _ _) (Nat.le_refl _) _) (Nat.le_refl _)
  nz := nz
  ml := ml
theorem Cell.new' {W : World} {b : Nat} {s : Int} {a : Option Addr} {c : Nat} {r : List Sp} (hb : b = W.heap.size) (h : Sps W a r) (nz : a = none → c = 0) (ml : r.length ≤ maxLen) : Cell (W.alloc (.cells #[.int .i64 s, .slice a r.length c] 24)) b s a c r := by
  subst hb; exact Cell.new h nz ml

/-- what a law is told: a set of the times that p tells, or an error and nothing -/
def Ans (size : Int) (ok : Prop) (p : Int → Bool) (s : Int) (r : List Sp) (e : Int) : Prop :=
  (e = 0 ∧ s = size ∧ ok ∧ chk size r = 0 ∧ ∀ t, mem r t = p t) ∨ (e ≠ 0 ∧ s = 0 ∧ r = [] ∧ (ok → ∃ r', good size (-1) r' = true ∧ (∀ t, mem r' t = p t) ∧ 200 < r'.length))
theorem Ans.is {size : Int} {ok : Prop} {p : Int → Bool} {s : Int} {r : List Sp} {e : Int} (h : Ans size ok p s r e) (hk : ok) {r0 : List Sp} (hc : chk size r0 = 0) (hm : ∀ t, mem r0 t = p t) : e = 0 ∧ s = size ∧ r = r0 := by
  obtain ⟨_, _, h3, h4⟩ := chk_zero hc
  rcases h with ⟨h1, h2, _, h5, h6⟩ | ⟨_, _, _, h6⟩
  · exact ⟨h1, h2, unique (chk_zero h5).2.2.2 h4 fun t => (h6 t).trans (hm t).symm⟩
  · obtain ⟨r', g1, g2, g3⟩ := h6 hk
    have := unique g1 h4 fun t => (g2 t).trans (hm t).symm
    subst this
    omega
theorem Ans.same {size size' : Int} {ok ok' : Prop} {p p' : Int → Bool} {s s' : Int} {r r' : List Sp} {e e' : Int} (h : Ans size ok p s r e) (h' : Ans size' ok' p' s' r' e') (hk : ok ↔ ok') (hp : ok → size = size' ∧ ∀ t, p t = p' t) : (e = 0 ↔ e' = 0) ∧ (e = 0 → s = s' ∧ r = r') := by
  rcases h with ⟨h1, h2, h3, h4, h5⟩ | ⟨h1, h2, h3, h4⟩
  · obtain ⟨rfl, hq⟩ := hp h3
    have := h'.is (hk.1 h3) h4 fun t => (h5 t).trans (hq t)
    exact ⟨⟨fun _ => this.1, fun _ => h1⟩, fun _ => ⟨by rw [h2, this.2.1], this.2.2.symm⟩⟩
  · rcases h' with ⟨g1, g2, g3, g4, g5⟩ | ⟨g1, _⟩
    · exfalso
      obtain ⟨rfl, hq⟩ := hp (hk.2 g3)
      have := (Ans.is (.inr ⟨h1, h2, h3, h4⟩) (hk.2 g3) g4 fun t => (g5 t).trans (hq t).symm).1
      exact h1 this
    · exact ⟨⟨fun h => absurd h h1, fun h => absurd h g1⟩, fun h => absurd h h1⟩
/-- a call tells that -/
def Says (f : Nat) (args : Array Value) (W : World) (A : Int → List Sp → Int → Prop) : Prop :=
  Calls Try.prog f args W fun e w' => (∃ (s : Int) (a : Option Addr) (c : Nat) (r : List Sp) (er : Int), e = .returned (.tuple #[.agg #[.int .i64 s, .slice a r.length c], .int .i64 er]) ∧ Sps w' a r ∧ (a = none → c = 0) ∧ r.length ≤ maxLen ∧ A s r er) ∧ Below W.heap.size W w'
theorem Own.full {w : World} {B : Nat} {v : Value} {l : List Sp} (h : Own w B v l) : ∃ a c, v = .slice a l.length c ∧ Sps w a l ∧ (a = none → c = 0) ∧ l.length ≤ maxLen := by
  obtain ⟨a, c, rfl, hs, h1, h2⟩ := h.sps
  refine ⟨a, c, rfl, hs, fun ha => ?_, Nat.le_trans h1 h2⟩
  subst ha
  rcases h.form with ⟨e, _⟩ | ⟨g, cp, e, _⟩
  · simp only [Value.slice.injEq] at e; exact e.2.2
  · simp at e
theorem says_told {f : Nat} {args : Array Value} {W : World} {size : Int} {ok : Prop} {p : Int → Bool} (h1 : 1 ≤ size) (h2 : size ≤ 1000000) (hk : ok)
    (h : Calls Try.prog f args W fun e w' => (∃ r, good size (-1) r = true ∧ (∀ t, mem r t = p t) ∧ Told size r W.heap.size e w') ∧ Below W.heap.size W w') : Says f args W (Ans size ok p) := by
  refine h.mono ?_
  rintro e w' ⟨⟨r, hg, hm, ht⟩, hb⟩
  rcases ht with ⟨hl, v, rfl, ho⟩ | ⟨hl, rfl⟩
  · obtain ⟨a, c, rfl, hs, hn, hml⟩ := ho.full
    exact ⟨⟨size, a, c, r, 0, rfl, hs, hn, hml, .inl ⟨rfl, rfl, hk, chk_of h1 h2 hl hg, hm⟩⟩, hb⟩
  · exact ⟨⟨0, none, 0, [], 2, rfl, .inl rfl, fun _ => rfl, by simp, .inr ⟨by decide, rfl, rfl, fun _ => ⟨r, hg, hm, hl⟩⟩⟩, hb⟩
theorem says_err {f : Nat} {args : Array Value} {W : World} {size E : Int} {ok : Prop} {p : Int → Bool} (hE : E ≠ 0) (hk : ¬ ok)
    (h : Calls Try.prog f args W fun e w' => e = .returned (.tuple #[.agg #[.int .i64 0, .slice none 0 0], .int .i64 E]) ∧ Below W.heap.size W w') : Says f args W (Ans size ok p) := by
  refine h.mono ?_
  rintro e w' ⟨rfl, hb⟩
  exact ⟨⟨0, none, 0, [], E, rfl, .inl rfl, fun _ => rfl, by simp, .inr ⟨hE, rfl, rfl, fun h => absurd h hk⟩⟩, hb⟩
/-- what is not in a set -/
def notP (size : Int) (l : List Sp) (t : Int) : Bool := decide (0 ≤ t ∧ t < size) && !mem l t
theorem not_says {W : World} {b : Nat} {size : Int} {a : Option Addr} {c : Nat} {l : List Sp} (h : Cell W b size a c l) : Says 26 #[.agg #[.int .i64 size, .slice a l.length c]] W (Ans size (chk size l = 0) (notP size l)) := by
  by_cases hk : chk size l = 0
  · obtain ⟨s1, s2, s3, s4⟩ := chk_zero hk
    have hn := notE_good (size := size) (e := 0) (l := l) (good_weak s4 (by omega))
    exact says_told s1 s2 hk ((not_ok size a c l W h.sp hk).mono fun e w' ⟨ht, hb⟩ => ⟨⟨_, good_weak hn.1 (by omega), hn.2, ht⟩, hb⟩)
  · exact says_err hk hk (not_err size a c l W h.sp hk)
theorem both_says {W : World} {b1 b2 : Nat} {s1 s2 : Int} {a1 a2 : Option Addr} {c1 c2 : Nat} {l m : List Sp} (h1 : Cell W b1 s1 a1 c1 l) (h2 : Cell W b2 s2 a2 c2 m) : Says 32 #[.agg #[.int .i64 s1, .slice a1 l.length c1], .agg #[.int .i64 s2, .slice a2 m.length c2]] W (Ans s1 (chk2 s1 l s2 m = 0) fun t => mem l t && mem m t) := by
  by_cases hk : chk2 s1 l s2 m = 0
  · obtain ⟨k1, k2, rfl⟩ := chk2_zero hk
    obtain ⟨q1, q2, _, _⟩ := chk_zero k1
    exact says_told q1 q2 hk (both_ok s1 a1 a2 c1 c2 l m W h1.sp h2.sp k1 k2)
  · exact says_err hk hk (both_err s1 s2 a1 a2 c1 c2 l m W h1.sp h2.sp hk)
theorem either_says {W : World} {b1 b2 : Nat} {s1 s2 : Int} {a1 a2 : Option Addr} {c1 c2 : Nat} {l m : List Sp} (h1 : Cell W b1 s1 a1 c1 l) (h2 : Cell W b2 s2 a2 c2 m) : Says 33 #[.agg #[.int .i64 s1, .slice a1 l.length c1], .agg #[.int .i64 s2, .slice a2 m.length c2]] W (Ans s1 (chk2 s1 l s2 m = 0) fun t => mem l t || mem m t) := by
  by_cases hk : chk2 s1 l s2 m = 0
  · obtain ⟨k1, k2, rfl⟩ := chk2_zero hk
    obtain ⟨q1, q2, _, _⟩ := chk_zero k1
    exact says_told q1 q2 hk (either_ok s1 a1 a2 c1 c2 l m W h1.sp h2.sp h1.nz h2.nz k1 k2)
  · exact says_err hk hk (either_err s1 s2 a1 a2 c1 c2 l m W h1.sp h2.sp hk)
theorem Ans.ok0 {size : Int} {ok : Prop} {p : Int → Bool} {s : Int} {r : List Sp} (h : Ans size ok p s r 0) : s = size ∧ ok ∧ chk size r = 0 ∧ ∀ t, mem r t = p t := by
  rcases h with ⟨_, h⟩ | ⟨h, _⟩
  · exact h
  · exact absurd rfl h
theorem chk2_comm {s1 s2 : Int} {l m : List Sp} : chk2 s1 l s2 m = 0 ↔ chk2 s2 m s1 l = 0 := by
  constructor
  · intro h
    obtain ⟨h1, h2, rfl⟩ := chk2_zero h
    exact chk2_of h2 h1
  · intro h
    obtain ⟨h1, h2, rfl⟩ := chk2_zero h
    exact chk2_of h2 h1
theorem chk_range {size : Int} {l : List Sp} (h : chk size l = 0) (t : Int) : mem l t = (decide (0 ≤ t ∧ t < size) && mem l t) := by
  cases hm : mem l t
  · simp
  · have := good_mem (chk_zero h).2.2.2 hm
    rw [decide_eq_true (by omega)]; rfl
theorem cb_sum {size f t : Int} {a b c d : List Sp} (hs : 1 ≤ size) (h0 : 0 ≤ f) (h1 : f ≤ t) (ha : good size (-1) a = true) (hb : good size (-1) b = true) (hc : good size (-1) c = true) (hd : good size (-1) d = true)
    (h : ∀ u, SpanM.one (mem a u) + SpanM.one (mem b u) = SpanM.one (mem c u) + SpanM.one (mem d u)) :
    (cb size a t - cb size a f) + (cb size b t - cb size b f) = (cb size c t - cb size c f) + (cb size d t - cb size d f) := by
  have key : ∀ n : Nat, cb size a n + cb size b n = cb size c n + cb size d n := fun n => by
    rw [cb_num hs ha, cb_num hs hb, cb_num hs hc, cb_num hs hd]
    exact num_sum _ _ _ _ n fun u => h (u % size)
  have k1 := key t.toNat
  have k2 := key f.toNat
  rw [Int.toNat_of_nonneg (by omega)] at k1 k2
  omega
theorem cb_all {size f t : Int} {a b : List Sp} (hs : 1 ≤ size) (h0 : 0 ≤ f) (h1 : f ≤ t) (ha : good size (-1) a = true) (hb : good size (-1) b = true)
    (h : ∀ u, mem a u = notP size b u) :
    (cb size a t - cb size a f) + (cb size b t - cb size b f) = t - f := by
  have key : ∀ n : Nat, cb size a n + cb size b n = n := fun n => by
    rw [cb_num hs ha, cb_num hs hb]
    refine num_all _ _ n fun u _ => ?_
    have m1 := Int.emod_nonneg (u : Int) (show size ≠ 0 by omega)
    have m2 := Int.emod_lt_of_pos (u : Int) (show 0 < size by omega)
    rw [h, notP, decide_eq_true ⟨m1, m2⟩]
    cases mem b ((u : Int) % size) <;> rfl
  have k1 := key t.toNat
  have k2 := key f.toNat
  rw [Int.toNat_of_nonneg (by omega)] at k1 k2
  omega
theorem cb_mono' {size f t : Int} {l : List Sp} (hs : 1 ≤ size) (hg : good size (-1) l = true) (hf : 0 ≤ f) (ht : f ≤ t) : 0 ≤ cb size l t - cb size l f ∧ cb size l t - cb size l f ≤ t - f := by
  have e1 := cb_num hs hg t.toNat
  have e2 := cb_num hs hg f.toNat
  rw [Int.toNat_of_nonneg (by omega)] at e1 e2
  rw [e1, e2]
  have := num_bd (fun u => mem l (u % size)) f.toNat t.toNat (by omega)
  omega
end SpanC
end Go.Proofs.Ytepnlfnnancnfaa
