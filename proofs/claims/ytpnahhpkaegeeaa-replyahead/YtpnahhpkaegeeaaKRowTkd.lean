/- Several texts, one behind the other: RowTkd. -/
import Derived.Test.YtpnahhpkaegeeaaKRowTk
import Derived.Deep.RegionLaw
import Derived.Laws.IdiomCopy
import Derived.Lib.SliceRun
import Derived.Lib.Walk
import Derived.Shelf.RegionOpenPlain
/- slices.Delete of one of rows of api.Task (gen_rows.py writes this text). -/
set_option linter.unusedVariables false
namespace Go.Proofs.Ytpnahhpkaegeeaa
open Go.RowKit Go.Shelf
open SpanM SpanC
namespace RowsO
/-- what a list of cells is behind a store of some in a row -/
def putL : List Value → Nat → List Value → List Value
  | xs, _, [] => xs
  | xs, o, v :: r => putL (xs.set o v) (o + 1) r
theorem own_setCells {w : World} {B e size g n cap : Nat} : ∀ (vs : List Value) (o : Nat) {w : World} {xs : List Value}, w.ownsRow B e size (.slice (some ⟨g, 0, none⟩) n cap) n xs →
    (w.setCells g o vs).ownsRow B e size (.slice (some ⟨g, 0, none⟩) n cap) n (putL xs o vs) ∧ w.grownBy (w.setCells g o vs) (some g)
  | [], _, w, _, h => ⟨h, ⟨rfl, rfl, rfl, Nat.le_refl _, fun _ _ _ => rfl⟩⟩
  | v :: r, o, w, _, h => by
    obtain ⟨h1, h2⟩ := World.ownsRow.stored h o v
    obtain ⟨h3, h4⟩ := own_setCells (w := w) (B := B) (e := e) (size := size) (g := g) (n := n) (cap := cap) r (o + 1) h1
    exact ⟨h3, h2.trans h4⟩
theorem putL_eq : ∀ (vs : List Value) (a b c : List Value), b.length = vs.length → putL (a ++ b ++ c) a.length vs = a ++ vs ++ c
  | [], a, b, c, h => by
    have : b = [] := List.length_eq_zero_iff.1 (by simpa using h)
    subst this; rfl
  | v :: r, a, b, c, h => by
    cases b with
    | nil => simp at h
    | cons y s =>
      have hs : s.length = r.length := by simpa using h
      have e1 : (a ++ y :: s ++ c).set a.length v = (a ++ [v]) ++ s ++ c := by
        rw [List.append_assoc, List.set_append_right _ _ (Nat.le_refl _)]
        simp
      unfold putL
      rw [e1, show a.length + 1 = (a ++ [v]).length by simp, putL_eq r (a ++ [v]) s c hs]
      simp
theorem own_take {w : World} {B e size g n m cap : Nat} {xs : List Value} (h : w.ownsRow B e size (.slice (some ⟨g, 0, none⟩) n cap) n xs) (hm : m ≤ n) : w.ownsRow B e size (.slice (some ⟨g, 0, none⟩) m cap) m (xs.take (m * size)) := by
  have hle : m * size ≤ n * size := Nat.mul_le_mul_right _ hm
  refine ⟨by rw [List.length_take, h.1]; omega, ?_⟩
  rcases h.2 with ⟨e0, _⟩ | ⟨g', cap', cur, e0, hb, hg, h1, h2, h3, h4⟩
  · simp at e0
  · simp only [Value.slice.injEq, Option.some.injEq, Addr.mk.injEq, and_true, true_and] at e0
    obtain ⟨rfl, rfl⟩ := e0
    refine .inr ⟨g, cap, cur, rfl, hb, hg, by omega, h2, h3, ?_⟩
    rw [← h4, List.take_take, Nat.min_eq_left hle]
theorem run_clearTk (w : World) (ty : TypeId) (b o c : Nat) (hc : ∀ j, j < 3 → (w.cell? ⟨b, o + j, none⟩).isSome = true) (hf : ∀ j, j < 3 → w.frozen? ⟨b, o + j, none⟩ = false) :
    (Builtin.clear_ #[22] ty #[.slice (some ⟨b, o, none⟩) 1 c]).run Try.prog w = .ok (.tuple #[]) (w.setCells b o [.int .i64 0, .int .i64 0, .int .i64 0]) := by
  have hst := run_storeCells_cells (P := Try.prog) b o [.int .i64 0, .int .i64 0, .int .i64 0] 0 w (by simpa using hc) (by simpa using hf) (by intro v hv; simp at hv; rcases hv with rfl; rfl)
  simp only [Nat.add_zero] at hst
  have hv := Try.zeroValue67
  have hzc : (Builtin.zeroCells (Value.agg #[.int .i64 0, .int .i64 0, .int .i64 0]).cells 1).toList = [.int .i64 0, .int .i64 0, .int .i64 0] := by first | kernel_rfl | (simp [Builtin.zeroCells, Value.cells]; done) | (simp [Builtin.zeroCells]; rfl)
  simp [Builtin.clear_, run_underlying Try.underlying22, hv, hzc, hst]
set_option maxRecDepth 100000 in
set_option maxHeartbeats 1600000 in
theorem deleteTk_any (B g cap : Nat) (p q : List Tk) (x : Tk) (w : World) (h : OwnTk w B (.slice (some ⟨g, 0, none⟩) (p ++ x :: q).length cap) (p ++ x :: q)) (hB : B ≤ w.heap.size) (hl : (p ++ x :: q).length ≤ 200) :
    Calls Try.prog 38 #[.slice (some ⟨g, 0, none⟩) (p ++ x :: q).length cap, .int .i64 p.length, .int .i64 ((p.length : Int) + 1)] w fun e w' => e = .returned (.slice (some ⟨g, 0, none⟩) (p ++ q).length cap) ∧ OwnTk w' B (.slice (some ⟨g, 0, none⟩) (p ++ q).length cap) (p ++ q) ∧ Below B w w' := by
  obtain ⟨i0, hi, hz0, hz1, hz2⟩ := info_parts infoTk
  have Hi := hid hi
  have Hz1 := hid hz1
  clear hi hz0 hz1 hz2
  have hcap : (p ++ x :: q).length ≤ cap ∧ cap ≤ maxLen := by
    rcases h.form with ⟨e, _⟩ | ⟨g', c', e, _, _, h1, h2⟩
    · simp at e
    · simp only [Value.slice.injEq] at e; rw [e.2.2]; exact ⟨h1, h2⟩
  have hgB : B ≤ g := (World.ownsRow.lt h g rfl).1
  obtain ⟨hc1, hc2⟩ := hcap
  unfold maxLen at hc2
  have hlen : (p ++ x :: q).length = p.length + 1 + q.length := by simp; omega
  have hlen2 : (p ++ q).length = p.length + q.length := by simp
  have hfl : flatTk (p ++ x :: q) = flatTk p ++ encTk x ++ flatTk q := by rw [flatTk_append]; simp [flatTk, encTk]
  -- the world behind the append
  have hW1 := own_setCells (w := w) (flatTk q) (p.length * 3) h
  obtain ⟨W1, hW⟩ : ∃ W1, W1 = (w.drew).setCells g (p.length * 3) (flatTk q) := ⟨_, rfl⟩
  have hd : OwnTk w.drew B (.slice (some ⟨g, 0, none⟩) (p ++ x :: q).length cap) (p ++ x :: q) := World.ownsRow.drew h
  have hW1 := own_setCells (w := w.drew) (flatTk q) (p.length * 3) hd
  rw [← hW] at hW1
  obtain ⟨o1, gr1⟩ := hW1
  -- .. and behind the clearing
  have hcl : ∀ ty, (Builtin.clear_ #[22] ty #[.slice (some ⟨g, (p.length + q.length) * 3, none⟩) 1 (cap - (p.length + q.length))]).run Try.prog W1 = .ok (.tuple #[]) (W1.setCells g ((p.length + q.length) * 3) [.int .i64 0, .int .i64 0, .int .i64 0]) := fun ty =>
    run_clearTk W1 ty g _ _ (fun j hj => by
      have := World.ownsRow.cellAt o1 ((p.length + q.length) * 3 + j) (by rw [hlen]; omega)
      rw [this, List.getElem?_eq_getElem (by rw [o1.1, hlen]; omega)]; rfl) (fun j hj => World.ownsRow.frozenAt o1 _)
  obtain ⟨o2, gr2⟩ := own_setCells (w := W1) [.int .i64 0, .int .i64 0, .int .i64 0] ((p.length + q.length) * 3) o1
  have hres : OwnTk (W1.setCells g ((p.length + q.length) * 3) [.int .i64 0, .int .i64 0, .int .i64 0]) B (.slice (some ⟨g, 0, none⟩) (p ++ q).length cap) (p ++ q) := by
    have h3 := own_take o2 (show (p ++ q).length ≤ (p ++ x :: q).length by rw [hlen, hlen2]; omega)
    show World.ownsRow _ _ _ _ _ _ _
    have e1 : (putL (putL (flatTk (p ++ x :: q)) (p.length * 3) (flatTk q)) ((p.length + q.length) * 3) [.int .i64 0, .int .i64 0, .int .i64 0]).take ((p ++ q).length * 3) = flatTk (p ++ q) := by
      obtain ⟨b1, b2, hb, hb1⟩ : ∃ b1 b2, encTk x ++ flatTk q = b1 ++ b2 ∧ b1.length = (flatTk q).length := ⟨(encTk x ++ flatTk q).take (flatTk q).length, (encTk x ++ flatTk q).drop (flatTk q).length, (List.take_append_drop _ _).symm, by rw [List.length_take, List.length_append]; omega⟩
      have hb2 : b2.length = 3 := by
        have := congrArg List.length hb
        simp only [List.length_append] at this
        have h4 : (encTk x).length = 3 := rfl
        omega
      rw [hfl, List.append_assoc, hb, ← List.append_assoc, ← flatTk_length p, putL_eq _ _ _ _ hb1]
      have e2 : (p.length + q.length) * 3 = (flatTk p ++ flatTk q).length := by rw [List.length_append, flatTk_length, flatTk_length]; omega
      have e3 := putL_eq [.int .i64 0, .int .i64 0, .int .i64 0] (flatTk p ++ flatTk q) b2 [] (by rw [hb2]; rfl)
      rw [List.append_nil, List.append_nil] at e3
      rw [e2, e3, hlen2, e2, List.take_left, flatTk_append]
    rw [← e1]
    exact h3
  have HRES := hid hres
  have HBB : Hid (Below B w (W1.setCells g ((p.length + q.length) * 3) [.int .i64 0, .int .i64 0, .int .i64 0])) := by
    have hb0 : Below B w w.drew := (Below.refl _ _).drew
    have hb1 : Below B w W1 := Below.grown hb0 gr1 (by simpa using hB) (fun k hk => by simp at hk; omega)
    exact Below.grown hb1 gr2 (by have := hb1.size; omega) (fun k hk => by simp at hk; omega)
  obtain ⟨A, hA, hsrc⟩ : ∃ A : Addr, (if cap = p.length + 1 then some (⟨g, 0, none⟩ : Addr) else some ⟨g, (p.length + 1) * 3, none⟩) = some A ∧ Hid (∀ t u, (flatTk q)[t]? = some u → w.drew.cell? (A.add t) = some u) := by
    by_cases hcq : cap = p.length + 1
    · refine ⟨⟨g, 0, none⟩, by simp [hcq], fun t u hu => ?_⟩
      have h0 : q = [] := List.length_eq_zero_iff.1 (by omega)
      rw [h0] at hu
      simp [flatTk] at hu
    · refine ⟨⟨g, (p.length + 1) * 3, none⟩, by simp [hcq], fun t u hu => ?_⟩
      have ht : t < q.length * 3 := by
        have := (List.getElem?_eq_some_iff.1 hu).1
        rwa [flatTk_length] at this
      have ha : (⟨g, (p.length + 1) * 3, none⟩ : Addr).add t = ⟨g, (p.length + 1) * 3 + t, none⟩ := by
        by_cases h0 : t = 0 <;> simp [Addr.add, h0]
      rw [ha]
      have := World.ownsRow.cellAt hd ((p.length + 1) * 3 + t) (by rw [hlen]; omega)
      rw [this, hfl, List.append_assoc, ← List.append_assoc, List.getElem?_append_right (by rw [List.length_append, flatTk_length]; have h4 : (encTk x).length = 3 := rfl; omega)]
      rw [List.length_append, flatTk_length, show (p.length + 1) * 3 + t - (p.length * 3 + (encTk x).length) = t by have h4 : (encTk x).length = 3 := rfl; omega]
      exact hu
  have s1 : Hid ((flatTk q).length = q.length * 3) := flatTk_length q
  have s2 := hid (flatTk_one q)
  have s3 : Hid (∀ t, t < (flatTk q).length → (w.drew.cell? ⟨g, 0 + p.length * 3 + t, none⟩).isSome = true ∧ w.drew.frozen? ⟨g, 0 + p.length * 3 + t, none⟩ = false) := by
    intro t ht
    rw [flatTk_length] at ht
    have := World.ownsRow.cellAt hd (p.length * 3 + t) (by rw [hlen]; omega)
    rw [Nat.zero_add, this, List.getElem?_eq_getElem (by rw [hd.1, hlen]; omega)]
    exact ⟨rfl, World.ownsRow.frozenAt hd _⟩
  have HW := hid hW
  have HCL := hid hcl
  rw [hlen2] at HRES ⊢
  rw [hlen] at hl hc1 ⊢
  clear h hd o1 gr1 o2 gr2 hres hW hcl hfl hW1 hlen hlen2
  have hpc : p.length ≤ cap := by omega
  have hpc2 : p.length + 1 ≤ cap := by omega
  generalize flatTk q = news at *
  generalize hpl : p.length = n at *
  generalize hql : q.length = m at *
  have mixed : Try.prog.follows .mixedOrders = true := by kernel_rfl
  rw [show (n : Int) + 1 = ((n + 1 : Nat) : Int) by omega]
  obtain ⟨J, hJ⟩ : ∃ J, n + 1 = J := ⟨_, rfl⟩
  rw [hJ] at hA hpc2 hl hc1 ⊢
  have hJ2 : (n : Int) < (J : Int) := by omega
  have hJm : (J : Int) ≤ (J : Int) + (m : Int) := by omega
  have hJ3 : ((n : Int) == (J : Int)) = false := by rw [beq_eq_false_iff_ne]; omega
  go_enter Try.func38, Try.ntmps38
  go_wp2_with fail
  go_region_law_o (refine step_append_room rfl (.tmp 22) (.tmp 25) 22 rfl 67 i0 3 Try.underlying22 Hi.out Hz1.out g 0 n cap (by simp [Act.eval, Act.put]) A m (cap - J) news (by simp [Act.eval, Act.put]) s1.out hsrc.out s2.out (by omega) s3.out ?_; rw [Nat.zero_add, ← HW.out])
  have hcl := HCL.out
  have hone : J + m - (n + m) = 1 := by omega
  have hone2 : J - n = 1 := by omega
  have hcn : ¬ cap = n + m := by omega
  have hx1 : (n : Int) + (m : Int) ≤ (J : Int) + (m : Int) := by omega
  have hx2 : J + m ≤ cap := by omega
  have hx3 : n + m ≤ cap := by omega
  go_wp2_with fail
  go_ret
  exact ⟨rfl, HRES.out, HBB.out⟩
end RowsO
end Go.Proofs.Ytpnahhpkaegeeaa
