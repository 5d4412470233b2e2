/- Contracts of package span: checkTwo, Both. -/
import Derived.Test.YtepnlfnnancnfaaSpanF
set_option linter.unusedVariables false
namespace Go.Proofs.Ytepnlfnnancnfaa
open Go.RowKit
open SpanM
namespace SpanC
/-- what checkTwo says -/
def chk2 (s1 : Int) (l : List Sp) (s2 : Int) (m : List Sp) : Int := if chk s1 l = 0 then (if chk s2 m = 0 then (if s1 = s2 then 0 else 1) else chk s2 m) else chk s1 l
theorem chk2_zero {s1 s2 : Int} {l m : List Sp} (h : chk2 s1 l s2 m = 0) : chk s1 l = 0 ∧ chk s2 m = 0 ∧ s1 = s2 := by
  unfold chk2 at h
  split at h
  · split at h
    · split at h
      · exact ⟨‹_›, ‹_›, ‹_›⟩
      · simp at h
    · exact absurd h ‹_›
  · exact absurd h ‹_›
theorem chk2_of {s : Int} {l m : List Sp} (h1 : chk s l = 0) (h2 : chk s m = 0) : chk2 s l s m = 0 := by
  unfold chk2; rw [if_pos h1, if_pos h2, if_pos rfl]
/-- two sets that came in, as a call keeps them -/
structure TBox (w W : World) (s1 : Int) (v1 : Value) (s2 : Int) (v2 : Value) : Prop where
  sz : w.heap.size + 2 ≤ W.heap.size
  a0 : W.cell? ⟨w.heap.size, 0, none⟩ = some (.int .i64 s1)
  a1 : W.cell? ⟨w.heap.size, 1, none⟩ = some v1
  b0 : W.cell? ⟨w.heap.size + 1, 0, none⟩ = some (.int .i64 s2)
  b1 : W.cell? ⟨w.heap.size + 1, 1, none⟩ = some v2
  be : Below w.heap.size w W
theorem TBox.start (w : World) (s1 : Int) (v1 : Value) (s2 : Int) (v2 : Value) : TBox w ((w.alloc (.cells #[.int .i64 s1, v1] 24)).alloc (.cells #[.int .i64 s2, v2] 24)) s1 v1 s2 v2 where
  sz := by simp
  a0 := (World.cell?_alloc_lt _ _ _ (by simp)).trans (World.cell?_alloc_at _ _ _ _ rfl)
  a1 := (World.cell?_alloc_lt _ _ _ (by simp)).trans (World.cell?_alloc_at _ _ _ _ rfl)
  b0 := World.cell?_alloc_at _ _ _ _ (by simp)
  b1 := World.cell?_alloc_at _ _ _ _ (by simp)
  be := by go_grown
theorem TBox.step {w W W' : World} {s1 s2 : Int} {v1 v2 : Value} (h : TBox w W s1 v1 s2 v2) (hb : Below (w.heap.size + 2) W W') : TBox w W' s1 v1 s2 v2 where
  sz := Nat.le_trans h.sz hb.size
  a0 := (hb.cell (by simp)).trans h.a0
  a1 := (hb.cell (by simp)).trans h.a1
  b0 := (hb.cell (by simp)).trans h.b0
  b1 := (hb.cell (by simp)).trans h.b1
  be := h.be.trans (hb.mono (by omega))
theorem TBox.call {w W W' : World} {s1 s2 : Int} {v1 v2 : Value} (h : TBox w W s1 v1 s2 v2) (hb : Below W.heap.size W W') : TBox w W' s1 v1 s2 v2 := h.step (hb.mono h.sz)
set_option maxHeartbeats 400000 in
theorem two_any (s1 s2 : Int) (a1 a2 : Option Addr) (c1 c2 : Nat) (l m : List Sp) (w : World) (h1 : Sps w a1 l) (h2 : Sps w a2 m) :
    Calls Try.prog 48 #[.agg #[.int .i64 s1, .slice a1 l.length c1], .agg #[.int .i64 s2, .slice a2 m.length c2]] w fun e w' => e = .returned (.int .i64 (chk2 s1 l s2 m)) ∧ Below w.heap.size w w' := by
  have H1 := hid (fun W (h : Below w.heap.size w W) => check_any s1 a1 c1 l W (h1.below h (Nat.le_refl _)))
  have H2 := hid (fun W (h : Below w.heap.size w W) => check_any s2 a2 c2 m W (h2.below h (Nat.le_refl _)))
  clear h1 h2
  by_cases k1 : chk s1 l = 0
  · rw [k1] at H1
    by_cases k2 : chk s2 m = 0
    · rw [k2] at H2
      by_cases k3 : s1 = s2
      · have e0 : chk2 s1 l s2 m = 0 := by unfold chk2; rw [if_pos k1, if_pos k2, if_pos k3]
        have hb : (s1 != s2) = false := by simp [k3]
        rw [e0]
        clear k1 k2 k3 e0
        go_enter Try.func48, Try.ntmps48
        go_wp2_with fail
        refine (H1.out _ (by go_grown)).mono ?_
        rintro e w1 ⟨rfl, b1⟩
        have TB := hid ((TBox.start w s1 (.slice a1 l.length c1) s2 (.slice a2 m.length c2)).call b1)
        clear b1
        obtain ⟨x1, x2, x3, x4, x5, x6⟩ := TB.out
        go_wp2_with fail
        refine (H2.out _ TB.out.be).mono ?_
        rintro e w2 ⟨rfl, b2⟩
        have TB2 := hid (TB.out.call b2)
        clear b2 x1 x2 x3 x4 x5 x6
        obtain ⟨x1, x2, x3, x4, x5, x6⟩ := TB2.out
        go_wp2_with fail
        go_ret
        exact ⟨rfl, TB2.out.be⟩
      · have e0 : chk2 s1 l s2 m = 1 := by unfold chk2; rw [if_pos k1, if_pos k2, if_neg k3]
        have hb : (s1 != s2) = true := by simp [k3]
        rw [e0]
        clear k1 k2 k3 e0
        go_enter Try.func48, Try.ntmps48
        go_wp2_with fail
        refine (H1.out _ (by go_grown)).mono ?_
        rintro e w1 ⟨rfl, b1⟩
        have TB := hid ((TBox.start w s1 (.slice a1 l.length c1) s2 (.slice a2 m.length c2)).call b1)
        clear b1
        obtain ⟨x1, x2, x3, x4, x5, x6⟩ := TB.out
        go_wp2_with fail
        refine (H2.out _ TB.out.be).mono ?_
        rintro e w2 ⟨rfl, b2⟩
        have TB2 := hid (TB.out.call b2)
        clear b2 x1 x2 x3 x4 x5 x6
        obtain ⟨x1, x2, x3, x4, x5, x6⟩ := TB2.out
        go_wp2_with fail
        go_ret
        exact ⟨rfl, TB2.out.be⟩
    · have e0 : chk2 s1 l s2 m = chk s2 m := by unfold chk2; rw [if_pos k1, if_neg k2]
      have hb : (chk s2 m != 0) = true := by simp [k2]
      rw [e0]
      clear k1 k2 e0
      generalize chk s2 m = E at *
      go_enter Try.func48, Try.ntmps48
      go_wp2_with fail
      refine (H1.out _ (by go_grown)).mono ?_
      rintro e w1 ⟨rfl, b1⟩
      have TB := hid ((TBox.start w s1 (.slice a1 l.length c1) s2 (.slice a2 m.length c2)).call b1)
      clear b1
      obtain ⟨x1, x2, x3, x4, x5, x6⟩ := TB.out
      go_wp2_with fail
      refine (H2.out _ TB.out.be).mono ?_
      rintro e w2 ⟨rfl, b2⟩
      have TB2 := hid (TB.out.call b2)
      clear b2 x1 x2 x3 x4 x5 x6
      go_wp2_with fail
      go_ret
      exact ⟨rfl, TB2.out.be⟩
  · have e0 : chk2 s1 l s2 m = chk s1 l := by unfold chk2; rw [if_neg k1]
    have hb : (chk s1 l != 0) = true := by simp [k1]
    rw [e0]
    clear k1 e0
    generalize chk s1 l = E at *
    go_enter Try.func48, Try.ntmps48
    go_wp2_with fail
    refine (H1.out _ (by go_grown)).mono ?_
    rintro e w1 ⟨rfl, b1⟩
    have TB := hid ((TBox.start w s1 (.slice a1 l.length c1) s2 (.slice a2 m.length c2)).call b1)
    clear b1
    go_wp2_with fail
    go_ret
    exact ⟨rfl, TB.out.be⟩

/-- the memory of a call of Both or Either -/
structure BBox (w W : World) (s1 : Int) (v1 : Value) (s2 : Int) (v2 : Value) : Prop where
  t : TBox w W s1 v1 s2 v2
  r : RBox w W (w.heap.size + 2)
theorem BBox.start (w : World) (s1 : Int) (v1 : Value) (s2 : Int) (v2 : Value) : BBox w (((w.alloc (.cells #[.int .i64 s1, v1] 24)).alloc (.cells #[.int .i64 s2, v2] 24)).alloc (.cells #[.int .i64 0, .slice none 0 0] 24)) s1 v1 s2 v2 where
  t := (TBox.start w s1 v1 s2 v2).step (Below.alloc (Below.refl _ _) (by simp) _)
  r := { sz := by simp
         r0 := World.cell?_alloc_at _ _ _ _ (by simp)
         r1 := World.cell?_alloc_at _ _ _ _ (by simp)
         f0 := World.frozen?_alloc_at _ _ _ _ (by simp)
         f1 := World.frozen?_alloc_at _ _ _ _ (by simp)
         be := by go_grown }
theorem BBox.step {w W W' : World} {s1 s2 : Int} {v1 v2 : Value} (h : BBox w W s1 v1 s2 v2) (hb : Below (w.heap.size + 3) W W') : BBox w W' s1 v1 s2 v2 where
  t := h.t.step (hb.mono (by omega))
  r := h.r.step hb (by omega)
theorem BBox.call {w W W' : World} {s1 s2 : Int} {v1 v2 : Value} (h : BBox w W s1 v1 s2 v2) (hb : Below W.heap.size W W') : BBox w W' s1 v1 s2 v2 := h.step (hb.mono (by have := h.r.sz; omega))

theorem both_err (s1 s2 : Int) (a1 a2 : Option Addr) (c1 c2 : Nat) (l m : List Sp) (w : World) (h1 : Sps w a1 l) (h2 : Sps w a2 m) (hk : chk2 s1 l s2 m ≠ 0) :
    Calls Try.prog 32 #[.agg #[.int .i64 s1, .slice a1 l.length c1], .agg #[.int .i64 s2, .slice a2 m.length c2]] w fun e w' => e = .returned (.tuple #[.agg #[.int .i64 0, .slice none 0 0], .int .i64 (chk2 s1 l s2 m)]) ∧ Below w.heap.size w w' := by
  have H1 := hid (fun W (h : Below w.heap.size w W) => two_any s1 s2 a1 a2 c1 c2 l m W (h1.below h (Nat.le_refl _)) (h2.below h (Nat.le_refl _)))
  have hb : (chk2 s1 l s2 m != 0) = true := by simp [hk]
  clear h1 h2 hk
  generalize chk2 s1 l s2 m = E at *
  go_enter Try.func32, Try.ntmps32
  go_wp2_with fail
  refine (H1.out _ (by go_grown)).mono ?_
  rintro e w1 ⟨rfl, b1⟩
  have BB := hid ((BBox.start w s1 (.slice a1 l.length c1) s2 (.slice a2 m.length c2)).call b1)
  clear b1
  obtain ⟨x1, x2, x3, x4, x5, x6⟩ := BB.out.r
  have z0 := BB.out.r.s0
  have z1 := BB.out.r.s1
  go_wp2_with fail
  exact bodyPost_ret (v := .tuple #[.agg #[.int .i64 0, .slice none 0 0], .int .i64 E]) (by simp [results, Try.results32, go_sem, z0, z1]) rfl ⟨rfl, by go_grown⟩
theorem either_err (s1 s2 : Int) (a1 a2 : Option Addr) (c1 c2 : Nat) (l m : List Sp) (w : World) (h1 : Sps w a1 l) (h2 : Sps w a2 m) (hk : chk2 s1 l s2 m ≠ 0) :
    Calls Try.prog 33 #[.agg #[.int .i64 s1, .slice a1 l.length c1], .agg #[.int .i64 s2, .slice a2 m.length c2]] w fun e w' => e = .returned (.tuple #[.agg #[.int .i64 0, .slice none 0 0], .int .i64 (chk2 s1 l s2 m)]) ∧ Below w.heap.size w w' := by
  have H1 := hid (fun W (h : Below w.heap.size w W) => two_any s1 s2 a1 a2 c1 c2 l m W (h1.below h (Nat.le_refl _)) (h2.below h (Nat.le_refl _)))
  have hb : (chk2 s1 l s2 m != 0) = true := by simp [hk]
  clear h1 h2 hk
  generalize chk2 s1 l s2 m = E at *
  go_enter Try.func33, Try.ntmps33
  go_wp2_with fail
  refine (H1.out _ (by go_grown)).mono ?_
  rintro e w1 ⟨rfl, b1⟩
  have BB := hid ((BBox.start w s1 (.slice a1 l.length c1) s2 (.slice a2 m.length c2)).call b1)
  clear b1
  obtain ⟨x1, x2, x3, x4, x5, x6⟩ := BB.out.r
  have z0 := BB.out.r.s0
  have z1 := BB.out.r.s1
  go_wp2_with fail
  exact bodyPost_ret (v := .tuple #[.agg #[.int .i64 0, .slice none 0 0], .int .i64 E]) (by simp [results, Try.results33, go_sem, z0, z1]) rfl ⟨rfl, by go_grown⟩
end SpanC
end Go.Proofs.Ytepnlfnnancnfaa
