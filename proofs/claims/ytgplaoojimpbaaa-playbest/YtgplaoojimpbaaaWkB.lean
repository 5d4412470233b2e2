/- What play.work's variables hold; span.Next as the model says it. -/
import Derived.Test.YtgplaoojimpbaaaWkA
import Derived.Test.YtgplaoojimpbaaaHpE
import Derived.Test.YtgplaoojimpbaaaSpanC2
set_option linter.unusedVariables false
namespace Go.Proofs.Ytgplaoojimpbaaa
open Go.RowKit hiding tok
open Go.Shelf Go.Sort
open SpanM SpanC PlayM
namespace PlayC
open RowG
/-- the next time of the set from u on -/
def Nx (P : Pl) (u : Nat) (t e : Int) : Prop := (e = 0 ∧ ∃ n : Nat, t = n ∧ u ≤ n ∧ P.on n = true ∧ ∀ x, u ≤ x → x < n → P.on x = false) ∨ (e = 7 ∧ t = 0 ∧ ∀ x, u ≤ x → P.on x = false)
theorem next_nx (P : Pl) (hk : chk P.size P.sl = 0) (u : Nat) (hu : u ≤ 30000) (a : Option Addr) (cap : Nat) (w : World) (hr : Sps w a P.sl) :
    Calls Try.prog 55 #[.agg #[.int .i64 P.size, .slice a P.sl.length cap], .int .i64 u] w fun r w' => ∃ t e, r = .returned (.tuple #[.int .i64 t, .int .i64 e]) ∧ Nx P u t e ∧ 0 ≤ t ∧ t ≤ 1100000 ∧ Below w.heap.size w w' := by
  by_cases hne : P.sl = []
  · have hk' := hk
    rw [hne] at hk' ⊢
    refine (next_none P.size u a cap w hk' (by omega) (by omega)).mono ?_
    rintro r w' ⟨rfl, hb⟩
    refine ⟨0, 7, rfl, .inr ⟨rfl, rfl, fun x _ => ?_⟩, by omega, by omega, hb⟩
    unfold Pl.on PlayM.inS
    rw [hne]; rfl
  · refine (next_ok P.size u a cap P.sl w hr hk (by omega) (by omega) hne).mono ?_
    rintro r w' ⟨n, rfl, ⟨n1, n2, n3, n4⟩, hb⟩
    obtain ⟨s1, s2, _⟩ := chk_zero hk
    refine ⟨n, 0, rfl, .inl ⟨rfl, n.toNat, by omega, by omega, ?_, fun x h1 h2 => ?_⟩, by omega, by omega, hb⟩
    · unfold Pl.on PlayM.inS
      rw [show ((n.toNat : Nat) : Int) = n by omega]; exact n3
    · unfold Pl.on PlayM.inS
      exact n4 x (by omega) (by omega)
/-- all of it: the set's box, the queue's box, the queue, what is done -/
structure Wk (w wr : World) (vs : Array Value) (vq vd : Value) (hq : List Jb) (dn : List Pl.Dn) : Prop where
  bel : Below w.heap.size w wr
  sz : w.heap.size + 2 ≤ wr.heap.size
  set : wr.heap[w.heap.size]? = some (.cells vs 25)
  box : wr.heap[w.heap.size + 1]? = some (oQ vq)
  q : OwnJ wr (w.heap.size + 2) vq hq
  d : OwnD wr (w.heap.size + 2) vd dn
theorem Wk.start (w : World) (vs : Array Value) : Wk w ((w.alloc (.cells vs 25)).alloc (oQ (.slice none 0 0))) vs (.slice none 0 0) (.slice none 0 0) [] [] := by
  have e : (w.alloc (.cells vs 25)).heap.size = w.heap.size + 1 := World.size_alloc _ _
  refine ⟨((Below.refl _ w).alloc (Nat.le_refl _) _).alloc (by rw [e]; omega) _, by rw [World.size_alloc, e]; omega, box_alloc (box_new w vs _) _, ?_, Own.nil _ _ _ _, Own.nil _ _ _ _⟩
  have := box_new (w.alloc (.cells vs 25)) #[.slice none 0 0] 90
  rw [e] at this; exact this
variable {w wr w' : World} {vs : Array Value} {vq vd : Value} {hq : List Jb} {dn : List Pl.Dn}
theorem Wk.below (h : Wk w wr vs vq vd hq dn) (hb : Below wr.heap.size wr w') : Wk w w' vs vq vd hq dn :=
  ⟨h.bel.trans ⟨hb.os, hb.tape, hb.output, hb.size, fun k hk => hb.block k (by have := h.sz; omega)⟩, Nat.le_trans h.sz hb.size, box_below h.set hb (Nat.le_refl _), box_below h.box hb (Nat.le_refl _), h.q.below hb (Nat.le_refl _), h.d.below hb (Nat.le_refl _)⟩
/-- rows of two types lie apart -/
theorem own_apart {α β : Type} {E : Enc α} {E' : Enc β} {T T' B B' : Nat} {w : World} {v v' : Value} {l : List α} {l' : List β} (h : Own E T w B v l) (h' : Own E' T' w B' v' l') (hT : T ≠ T') : v.ownBlock = none ∨ v.ownBlock ≠ v'.ownBlock := by
  rcases h.2 with ⟨rfl, _⟩ | ⟨g, cap, cur, rfl, _, hg, _⟩
  · exact .inl rfl
  · rcases h'.2 with ⟨rfl, _⟩ | ⟨g', cap', cur', rfl, _, hg', _⟩
    · exact .inr (by simp [Value.ownBlock])
    · refine .inr fun e => ?_
      simp only [Value.ownBlock, Option.some.injEq] at e
      rw [e, hg'] at hg
      injection hg with hg
      injection hg with _ h2 _
      exact hT h2.symm
theorem own_ge {α : Type} {E : Enc α} {T B : Nat} {w : World} {v : Value} {l : List α} (h : Own E T w B v l) : ∀ k, v.ownBlock = some k → B ≤ k := fun k hk => (h.lt k hk).1
theorem Wk.heap {vq' : Value} {hq' : List Jb} (h : Wk w wr vs vq vd hq dn) (hc : Ch (w.heap.size + 1) vq.ownBlock wr w') (hb : w'.heap[w.heap.size + 1]? = some (oQ vq')) (ho : OwnJ w' (w.heap.size + 2) vq' hq') : Wk w w' vs vq' vd hq' dn := by
  have hge := own_ge h.q
  have hsz := h.sz
  refine ⟨h.bel.trans ⟨hc.os, hc.tape, hc.output, hc.size, fun k hk => hc.block k (by omega) (by omega) (fun e => ?_)⟩, Nat.le_trans h.sz hc.size, ?_, hb, ho, ?_⟩
  · have := hge k e.symm; omega
  · rw [hc.block _ (by omega) (by omega) (fun e => by have := hge _ e.symm; omega)]; exact h.set
  · refine hc.own h.d (fun e => ?_) (own_apart h.d h.q (by decide))
    have := own_ge h.d _ e; omega
theorem Wk.row {hq' : List Jb} (h : Wk w wr vs vq vd hq dn) (hg : wr.grownBy w' vq.ownBlock) (ho : OwnJ w' (w.heap.size + 2) vq hq') : Wk w w' vs vq vd hq' dn := by
  refine h.heap (Ch.of hg) ?_ ho
  exact box_grown h.box hg (own_ne h.q h.box (by decide))
theorem Wk.done {vd' : Value} {dn' : List Pl.Dn} (h : Wk w wr vs vq vd hq dn) (hg : wr.grownBy w' vd.ownBlock) (ho : OwnD w' (w.heap.size + 2) vd' dn') : Wk w w' vs vq vd' hq dn' := by
  have hge := own_ge h.d
  have hsz := h.sz
  refine ⟨h.bel.trans ⟨hg.os, hg.tape, hg.output, hg.size, fun k hk => hg.block k (by omega) (fun e => ?_)⟩, Nat.le_trans h.sz hg.size, ?_, ?_, ?_, ho⟩
  · have := hge k e.symm; omega
  · exact box_grown h.set hg (fun e => by have := hge _ e.symm; omega)
  · exact box_grown h.box hg (fun e => by have := hge _ e.symm; omega)
  · exact h.q.kept hg (own_apart h.q h.d (by decide))
/-- one further -/
theorem rd_tail {w : World} {b off : Nat} {x : Jb} {l : List Jb} (h : Rd EJ w (some ⟨b, off, none⟩) (x :: l)) : Rd EJ w (some ⟨b, off + 7, none⟩) l := by
  by_cases hl : l = []
  · exact .inl hl
  · rcases h with h | ⟨b', off', e, h⟩
    · simp at h
    · simp only [Option.some.injEq, Addr.mk.injEq, and_true] at e
      obtain ⟨rfl, rfl⟩ := e
      refine .inr ⟨b, off + 7, rfl, fun i j hi hj => ?_⟩
      have := h (i + 1) j (by simp; omega) hj
      have e7 : EJ.k = 7 := rfl
      rw [e7] at this ⊢
      rw [show off + 7 + i * 7 + j = off + (i + 1) * 7 + j by omega, this]
      rfl
theorem idles_bd (P : Pl) (hP : P.Ok) : ∀ u, 0 ≤ P.idles u ∧ P.idles u ≤ u
  | 0 => by simp [Pl.idles]
  | u + 1 => by
    have := idles_bd P hP u
    have e : P.idles (u + 1) = P.idles u + P.idle1 (P.Lf u) u := rfl
    rcases Pl.cases1 hP (P.Lf u) u with ⟨_, _, _, _, c⟩ | ⟨_, _, _, _, _, c⟩ | ⟨_, _, _, _, _, _, _, c⟩ <;> rw [c] at e <;> omega
theorem outs_bd (P : Pl) (hP : P.Ok) : ∀ u, (P.outs u).length ≤ u
  | 0 => by simp [Pl.outs]
  | u + 1 => by
    have := outs_bd P hP u
    have e : P.outs (u + 1) = P.outs u ++ P.out1 (P.Lf u) u := rfl
    rw [e, List.length_append]
    rcases Pl.cases1 hP (P.Lf u) u with ⟨_, _, _, c, _⟩ | ⟨_, _, _, _, c, _⟩ | ⟨_, _, _, _, _, _, c, _⟩ <;> rw [c]
    · simp; omega
    · simp; omega
    · split <;> simp <;> omega
/-- how many waits there are at most -/
theorem Qs.len {P : Pl} {S : List (Nat × Nat)} {u m : Nat} {h : List Jb} (H : Qs P S u m h) : h.length ≤ m ∧ h.length ≤ S.length := by
  have h1 := H.perm.length_eq
  rw [List.length_map] at h1
  have h2 : (Fq P u S m).length ≤ (S.take m).length := List.length_filter_le _ _
  rw [List.length_take] at h2
  omega
/-- how far the loop is -/
def mz (t e : Value) : Nat := if intOf e = 0 then 3000000 - (intOf t).toNat else 0
theorem mz_less {P : Pl} {u : Nat} {t t' e' : Int} (ht : 0 ≤ t) (ht2 : t ≤ 20000) (hu : u = t.toNat + 1) (h : Nx P u t' e') : mz (.int .i64 t') (.int .i64 e') < mz (.int .i64 t) (.int .i64 0) := by
  unfold mz
  simp only [intOf]
  rcases h with ⟨rfl, n, rfl, h1, _⟩ | ⟨rfl, rfl, _⟩
  · simp; omega
  · simp; omega
end PlayC
end Go.Proofs.Ytgplaoojimpbaaa
