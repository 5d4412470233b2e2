/- The first statement of SpanOwn: three clones and three new variables, in whatever order. -/
import Derived.Test.YtepnlfnnancnfaaSpanOw3
import Derived.BigQuiet
set_option linter.unusedVariables false
namespace Go.Proofs.Ytepnlfnnancnfaa
open Go.RowKit
open SpanM
namespace SpanC
/-- the frame of SpanOwn, around its first statement -/
def Fr (s1 s2 : Int) (a1 a2 a3 : Option Addr) (c1 c2 c3 : Nat) (l1 l2 l3 : List Sp) (w : World) (u7 u8 u9 u24 u25 u26 u27 u28 u29 u30 u31 : Value) : Act := { tmps := #[.agg #[.int .i64 s1, .slice a1 l1.length c1], .agg #[.int .i64 s2, .slice a2 l2.length c2], .slice a3 l3.length c3, .pointer (some ⟨w.heap.size, 0, none⟩), .pointer (some ⟨w.heap.size + 1, 0, none⟩), .pointer (some ⟨w.heap.size + 1 + 1, 0, none⟩), .bool false, u7, u8, u9, undef, undef, undef, undef, undef, undef, undef, undef, undef, undef, undef, undef, undef, undef, u24, u25, u26, u27, u28, u29, u30, u31, undef, undef, undef, undef, undef, undef, undef, undef, undef, undef, undef, undef, undef, undef, undef, undef, undef, undef, undef, undef, undef, undef, undef, undef, undef, undef, undef, undef, undef, undef, undef, undef, undef, undef, undef, undef, undef, undef, undef, undef, undef, undef, undef, undef, undef, undef, undef, undef, undef, undef, undef, undef, undef, undef, undef, undef, undef, undef, undef, undef, undef, undef, undef, undef], defers := [] }
def Holds (w : World) (u v : Value) : Prop := ∃ b, u = .pointer (some ⟨b, 0, none⟩) ∧ w.cell? ⟨b, 0, none⟩ = some v
theorem Holds.below {w w' : World} {u v : Value} (h : Holds w u v) (hb : Below w.heap.size w w') : Holds w' u v := by
  obtain ⟨b, rfl, h1⟩ := h
  exact ⟨b, rfl, (hb.cell (World.block_lt_of_cell? _ _ h1)).trans h1⟩
theorem Holds.set {w : World} {u v : Value} (h : Holds w u v) {b : Nat} (hu : u ≠ .pointer (some ⟨b, 0, none⟩)) (v' : Value) : Holds (w.setCell ⟨b, 0, none⟩ v') u v := by
  obtain ⟨b', rfl, h1⟩ := h
  refine ⟨b', rfl, (World.cell?_setCell_other _ _ _ _ ?_).trans h1⟩
  intro e
  apply hu
  rw [e]
/-- what holds, by which operations have come up -/
structure OwI (s1 s2 : Int) (a1 a2 a3 : Option Addr) (c1 c2 c3 : Nat) (l1 l2 l3 : List Sp) (w : World) (W : World) (b0 b1 b2 b3 b4 b5 b6 b7 b8 b9 b10 b11 b12 b13 : Bool) (u7 u8 u9 u24 u25 u26 u27 u28 u29 u30 u31 : Value) : Prop where
  be : Below (w.heap.size + 3) (((w.alloc (.cells #[.int .i64 s1, .slice a1 l1.length c1] 24)).alloc (.cells #[.int .i64 s2, .slice a2 l2.length c2] 24)).alloc (.cells #[.slice a3 l3.length c3] 22)) W
  h0 : b0 = true → u24 = .pointer (some ⟨w.heap.size, 1, none⟩)
  h1 : b1 = true → u25 = .slice a1 l1.length c1
  h2 : b2 = true → Cl W u26 l1
  h3 : b3 = true → u27 = .pointer (some ⟨w.heap.size + 1, 1, none⟩)
  h4 : b4 = true → u28 = .slice a2 l2.length c2
  h5 : b5 = true → Cl W u29 l2
  h6 : b6 = true → u30 = .slice a3 l3.length c3
  h7 : b7 = true → Cl W u31 l3
  h8 : b8 = true → Bx W (w.heap.size + 3) u7
  h9 : b9 = true → Bx W (w.heap.size + 3) u8
  h10 : b10 = true → Bx W (w.heap.size + 3) u9
  d1 : b8 = true → b9 = true → u7 ≠ u8
  d2 : b8 = true → b10 = true → u7 ≠ u9
  d3 : b9 = true → b10 = true → u8 ≠ u9
  h11 : b11 = true → Holds W u7 u26
  h12 : b12 = true → Holds W u8 u29
  h13 : b13 = true → Holds W u9 u31
  k11 : b11 = true → b8 = true ∧ b2 = true
  k12 : b12 = true → b9 = true ∧ b5 = true
  k13 : b13 = true → b10 = true ∧ b7 = true
theorem OwI.grow {s1 s2 : Int} {a1 a2 a3 : Option Addr} {c1 c2 c3 : Nat} {l1 l2 l3 : List Sp} {w : World} {W W' : World} {b0 b1 b2 b3 b4 b5 b6 b7 b8 b9 b10 b11 b12 b13 : Bool} {u7 u8 u9 u24 u25 u26 u27 u28 u29 u30 u31 : Value}
    (h : OwI s1 s2 a1 a2 a3 c1 c2 c3 l1 l2 l3 w W b0 b1 b2 b3 b4 b5 b6 b7 b8 b9 b10 b11 b12 b13 u7 u8 u9 u24 u25 u26 u27 u28 u29 u30 u31) (hb : Below W.heap.size W W') : OwI s1 s2 a1 a2 a3 c1 c2 c3 l1 l2 l3 w W' b0 b1 b2 b3 b4 b5 b6 b7 b8 b9 b10 b11 b12 b13 u7 u8 u9 u24 u25 u26 u27 u28 u29 u30 u31 where
  be := h.be.trans (hb.mono (by have := h.be.size; simpa using this))
  h0 := h.h0
  h1 := h.h1
  h2 := fun e => (h.h2 e).below hb
  h3 := h.h3
  h4 := h.h4
  h5 := fun e => (h.h5 e).below hb
  h6 := h.h6
  h7 := fun e => (h.h7 e).below hb
  h8 := fun e => (h.h8 e).below hb
  h9 := fun e => (h.h9 e).below hb
  h10 := fun e => (h.h10 e).below hb
  d1 := h.d1
  d2 := h.d2
  d3 := h.d3
  h11 := fun e => (h.h11 e).below hb
  h12 := fun e => (h.h12 e).below hb
  h13 := fun e => (h.h13 e).below hb
  k11 := h.k11
  k12 := h.k12
  k13 := h.k13
theorem ready_nil {md : Region.Mode} {ops : Array Oper} {listed : Array Bool} (hr : Region.ready md ops listed = []) {i : Nat} {o : Oper} (ho : ops[i]? = some o) (hall : ∀ e ∈ o.after, Region.binds md e = true → listed.getD e.on false = true) : listed.getD i true = true := by
  cases h : listed.getD i true with
  | true => rfl
  | false =>
    have : i ∈ Region.ready md ops listed := mem_ready.2 ⟨h, o, ho, hall⟩
    rw [hr] at this
    cases this
theorem ne_new {w : World} {B : Nat} {u : Value} (h : Bx w B u) : u ≠ .pointer (some ⟨w.heap.size, 0, none⟩) := by
  obtain ⟨b, a, n, c, rfl, _, h1, _⟩ := h
  have := World.block_lt_of_cell? _ _ h1
  intro e
  simp at e
  simp at this
  omega
theorem below_set_any {B : Nat} {w W : World} {b o : Nat} (h : Below B w W) (hb : B ≤ b) (v : Value) : Below B w (W.setCell ⟨b, o, none⟩ v) := by go_grown
theorem below_set_ge {B : Nat} {w W : World} {b : Nat} (h : Below B w W) (hb : B ≤ b) (v : Value) : Below B w (W.setCell ⟨b, 0, none⟩ v) := by go_grown
theorem idx4_0 (x0 x1 x2 x3 x4 x5 x6 x7 : Value) (w : World) : (Instr.index 50 (.agg #[x0, x1, x2, x3, x4, x5, x6, x7]) (.int .i64 0)).run Try.prog w = .ok (.agg #[x0, x1]) w := by kernel_rfl
theorem idx4_1 (x0 x1 x2 x3 x4 x5 x6 x7 : Value) (w : World) : (Instr.index 50 (.agg #[x0, x1, x2, x3, x4, x5, x6, x7]) (.int .i64 1)).run Try.prog w = .ok (.agg #[x2, x3]) w := by kernel_rfl
theorem idx4_2 (x0 x1 x2 x3 x4 x5 x6 x7 : Value) (w : World) : (Instr.index 50 (.agg #[x0, x1, x2, x3, x4, x5, x6, x7]) (.int .i64 2)).run Try.prog w = .ok (.agg #[x4, x5]) w := by kernel_rfl
theorem idx4_3 (x0 x1 x2 x3 x4 x5 x6 x7 : Value) (w : World) : (Instr.index 50 (.agg #[x0, x1, x2, x3, x4, x5, x6, x7]) (.int .i64 3)).run Try.prog w = .ok (.agg #[x6, x7]) w := by kernel_rfl
def cntF (l : List Bool) : Nat := l.countP (fun b => !b)
theorem cnt_all {b0 b1 b2 b3 b4 b5 b6 b7 b8 b9 b10 b11 b12 b13 : Bool} (h : 0 = cntF [b0, b1, b2, b3, b4, b5, b6, b7, b8, b9, b10, b11, b12, b13]) : b0 = true ∧ b1 = true ∧ b2 = true ∧ b3 = true ∧ b4 = true ∧ b5 = true ∧ b6 = true ∧ b7 = true ∧ b8 = true ∧ b9 = true ∧ b10 = true ∧ b11 = true ∧ b12 = true ∧ b13 = true := by
  have h2 := List.countP_eq_zero.1 h.symm
  exact ⟨by have := h2 b0 (by simp); simpa using this, by have := h2 b1 (by simp); simpa using this, by have := h2 b2 (by simp); simpa using this, by have := h2 b3 (by simp); simpa using this, by have := h2 b4 (by simp); simpa using this, by have := h2 b5 (by simp); simpa using this, by have := h2 b6 (by simp); simpa using this, by have := h2 b7 (by simp); simpa using this, by have := h2 b8 (by simp); simpa using this, by have := h2 b9 (by simp); simpa using this, by have := h2 b10 (by simp); simpa using this, by have := h2 b11 (by simp); simpa using this, by have := h2 b12 (by simp); simpa using this, by have := h2 b13 (by simp); simpa using this⟩
set_option maxRecDepth 20000 in
set_option maxHeartbeats 4000000 in
theorem ow_any (s1 s2 : Int) (a1 a2 a3 : Option Addr) (c1 c2 c3 : Nat) (l1 l2 l3 : List Sp) (w : World) (C1 : Hid (∀ W, Below w.heap.size w W → Calls Try.prog 28 #[.slice a1 l1.length c1] W fun e w' => (∃ u, e = .returned u ∧ Cl w' u l1) ∧ Below W.heap.size W w')) (C2 : Hid (∀ W, Below w.heap.size w W → Calls Try.prog 28 #[.slice a2 l2.length c2] W fun e w' => (∃ u, e = .returned u ∧ Cl w' u l2) ∧ Below W.heap.size W w')) (C3 : Hid (∀ W, Below w.heap.size w W → Calls Try.prog 28 #[.slice a3 l3.length c3] W fun e w' => (∃ u, e = .returned u ∧ Cl w' u l3) ∧ Below W.heap.size W w')) (SP1 : Hid (Sps w a1 l1)) (SP2 : Hid (Sps w a2 l2)) (SP3 : Hid (Sps w a3 l3)) (NZ1 : Hid (a1 = none → c1 = 0)) (NZ2 : Hid (a2 = none → c2 = 0)) (ML1 : Hid (l1.length ≤ maxLen)) (ML2 : Hid (l2.length ≤ maxLen)) (ML3 : Hid (l3.length ≤ maxLen)) :
    Calls Try.prog 11 #[.agg #[.int .i64 s1, .slice a1 l1.length c1], .agg #[.int .i64 s2, .slice a2 l2.length c2], .slice a3 l3.length c3] w fun e w' => e = .returned (.bool true) ∧ Below w.heap.size w w' := by
  have E0 : Below w.heap.size w (((w.alloc (.cells #[.int .i64 s1, .slice a1 l1.length c1] 24)).alloc (.cells #[.int .i64 s2, .slice a2 l2.length c2] 24)).alloc (.cells #[.slice a3 l3.length c3] 22)) := by go_grown
  have F0 : Hid ((((w.alloc (.cells #[.int .i64 s1, .slice a1 l1.length c1] 24)).alloc (.cells #[.int .i64 s2, .slice a2 l2.length c2] 24)).alloc (.cells #[.slice a3 l3.length c3] 22)).cell? ⟨w.heap.size, 0, none⟩ = some (.int .i64 s1)) := (World.cell?_alloc_lt _ _ _ (by simp; omega)).trans ((World.cell?_alloc_lt _ _ _ (by simp)).trans (World.cell?_alloc_at _ _ _ _ rfl))
  have F1 : Hid ((((w.alloc (.cells #[.int .i64 s1, .slice a1 l1.length c1] 24)).alloc (.cells #[.int .i64 s2, .slice a2 l2.length c2] 24)).alloc (.cells #[.slice a3 l3.length c3] 22)).cell? ⟨w.heap.size, 1, none⟩ = some (.slice a1 l1.length c1)) := (World.cell?_alloc_lt _ _ _ (by simp; omega)).trans ((World.cell?_alloc_lt _ _ _ (by simp)).trans (World.cell?_alloc_at _ _ _ _ rfl))
  have G0 : Hid ((((w.alloc (.cells #[.int .i64 s1, .slice a1 l1.length c1] 24)).alloc (.cells #[.int .i64 s2, .slice a2 l2.length c2] 24)).alloc (.cells #[.slice a3 l3.length c3] 22)).cell? ⟨w.heap.size + 1, 0, none⟩ = some (.int .i64 s2)) := (World.cell?_alloc_lt _ _ _ (by simp)).trans (World.cell?_alloc_at _ _ _ _ (by simp))
  have G1 : Hid ((((w.alloc (.cells #[.int .i64 s1, .slice a1 l1.length c1] 24)).alloc (.cells #[.int .i64 s2, .slice a2 l2.length c2] 24)).alloc (.cells #[.slice a3 l3.length c3] 22)).cell? ⟨w.heap.size + 1, 1, none⟩ = some (.slice a2 l2.length c2)) := (World.cell?_alloc_lt _ _ _ (by simp)).trans (World.cell?_alloc_at _ _ _ _ (by simp))
  have K0 : Hid ((((w.alloc (.cells #[.int .i64 s1, .slice a1 l1.length c1] 24)).alloc (.cells #[.int .i64 s2, .slice a2 l2.length c2] 24)).alloc (.cells #[.slice a3 l3.length c3] 22)).cell? ⟨w.heap.size + 1 + 1, 0, none⟩ = some (.slice a3 l3.length c3)) := World.cell?_alloc_at _ _ _ _ (by simp)
  go_enter Try.func11, Try.ntmps11
  go_wp2_with fail
  refine wp_region_any (by kernel_rfl) ?_
  refine wpAny_inv (fun n listed a W => ∃ b0 b1 b2 b3 b4 b5 b6 b7 b8 b9 b10 b11 b12 b13 u7 u8 u9 u24 u25 u26 u27 u28 u29 u30 u31, listed = #[b0, b1, b2, b3, b4, b5, b6, b7, b8, b9, b10, b11, b12, b13] ∧ n = cntF [b0, b1, b2, b3, b4, b5, b6, b7, b8, b9, b10, b11, b12, b13] ∧ a = Fr s1 s2 a1 a2 a3 c1 c2 c3 l1 l2 l3 w u7 u8 u9 u24 u25 u26 u27 u28 u29 u30 u31 ∧ OwI s1 s2 a1 a2 a3 c1 c2 c3 l1 l2 l3 w W b0 b1 b2 b3 b4 b5 b6 b7 b8 b9 b10 b11 b12 b13 u7 u8 u9 u24 u25 u26 u27 u28 u29 u30 u31) ?step ?done ?zero 14 _ _ _ ?init
  case init =>
    refine ⟨false, false, false, false, false, false, false, false, false, false, false, false, false, false, undef, undef, undef, undef, undef, undef, undef, undef, undef, undef, undef, rfl, rfl, rfl, ?_⟩
    constructor
    · exact (Below.refl _ _).drew
    all_goals (intro h; exact absurd h (by decide))
  case zero =>
    rintro listed a W ⟨b0, b1, b2, b3, b4, b5, b6, b7, b8, b9, b10, b11, b12, b13, u7, u8, u9, u24, u25, u26, u27, u28, u29, u30, u31, rfl, hn, rfl, hI⟩
    obtain ⟨e0, e1, e2, e3, e4, e5, e6, e7, e8, e9, e10, e11, e12, e13⟩ := cnt_all hn
    subst e0 e1 e2 e3 e4 e5 e6 e7 e8 e9 e10 e11 e12 e13
    rfl
  case done =>
    rintro n listed a W ⟨b0, b1, b2, b3, b4, b5, b6, b7, b8, b9, b10, b11, b12, b13, u7, u8, u9, u24, u25, u26, u27, u28, u29, u30, u31, rfl, hn, rfl, hI⟩ hr
    have e : b0 = true := by have := ready_nil hr (i := 0) rfl (by simp [Region.binds]); simpa using this
    subst e
    have e : b3 = true := by have := ready_nil hr (i := 3) rfl (by simp [Region.binds]); simpa using this
    subst e
    have e : b6 = true := by have := ready_nil hr (i := 6) rfl (by simp [Region.binds]); simpa using this
    subst e
    have e : b8 = true := by have := ready_nil hr (i := 8) rfl (by simp [Region.binds]); simpa using this
    subst e
    have e : b9 = true := by have := ready_nil hr (i := 9) rfl (by simp [Region.binds]); simpa using this
    subst e
    have e : b10 = true := by have := ready_nil hr (i := 10) rfl (by simp [Region.binds]); simpa using this
    subst e
    have e : b1 = true := by have := ready_nil hr (i := 1) rfl (by simp [Region.binds]); simpa using this
    subst e
    have e : b4 = true := by have := ready_nil hr (i := 4) rfl (by simp [Region.binds]); simpa using this
    subst e
    have e : b2 = true := by have := ready_nil hr (i := 2) rfl (by simp [Region.binds]); simpa using this
    subst e
    have e : b5 = true := by have := ready_nil hr (i := 5) rfl (by simp [Region.binds]); simpa using this
    subst e
    have e : b7 = true := by have := ready_nil hr (i := 7) rfl (by simp [Region.binds]); simpa using this
    subst e
    have e : b11 = true := by have := ready_nil hr (i := 11) rfl (by simp [Region.binds]); simpa using this
    subst e
    have e : b12 = true := by have := ready_nil hr (i := 12) rfl (by simp [Region.binds]); simpa using this
    subst e
    have e : b13 = true := by have := ready_nil hr (i := 13) rfl (by simp [Region.binds]); simpa using this
    subst e
    obtain ⟨x1, d1, rfl, q1⟩ := hI.h2 rfl
    obtain ⟨x2, d2, rfl, q2⟩ := hI.h5 rfl
    obtain ⟨x3, d3, rfl, q3⟩ := hI.h7 rfl
    obtain ⟨b7, rfl, y7⟩ := hI.h11 rfl
    obtain ⟨b8, rfl, y8⟩ := hI.h12 rfl
    obtain ⟨b9, rfl, y9⟩ := hI.h13 rfl
    have OB0 : Hid (OB w W s1 s2 a1 a2 a3 x1 x2 x3 c1 c2 c3 d1 d2 d3 b7 b8 b9 l1 l2 l3) := { be := E0.trans (hI.be.mono (by omega)), f0 := (hI.be.cell (by simp; try omega)).trans F0.out, f1 := (hI.be.cell (by simp; try omega)).trans F1.out, g0 := (hI.be.cell (by simp; try omega)).trans G0.out, g1 := (hI.be.cell (by simp; try omega)).trans G1.out, e0 := (hI.be.cell (by simp; try omega)).trans K0.out, x7 := y7, x8 := y8, x9 := y9, p1 := q1, p2 := q2, p3 := q3 }
    obtain ⟨_, f0, f1, g0, g1, e0, x7, x8, x9, _, _, _⟩ := OB0.out
    clear y7 y8 y9 q1 q2 q3 hI hr hn C1 C2 C3 F0 F1 G0 G1 K0 E0
    simp only [Fr]
    go_wp2_with fail
    obtain ⟨V0, hV0⟩ : ∃ V, V = W := ⟨_, rfl⟩
    subst hV0
    have OBV0 := OB0
    have SZ0 := hid (Nat.le_refl V0.heap.size)
    have BU0 := hid (Below.refl V0.heap.size V0)
    clear f0 f1 g0 g1 e0 x7 x8 x9
    refine (of_tel s1 a3 c3 l3 _ (SP3.out.below OBV0.out.be (Nat.le_refl _))).mono ?_
    rintro e w1 ⟨⟨so, vo, ero, rfl, ko⟩, b⟩
    obtain ⟨po, no, qo, hv⟩ := ko.slice
    subst hv
    have OB1 := hid (OBV0.out.step b)
    have Ko1 := hid (ko.base (C := V0.heap.size) SZ0.out)
    have SW1 := hid (Nat.le_trans SZ0.out b.size)
    have BV1 := hid (bel_of BU0.out b)
    clear b ko
    obtain ⟨_, f0, f1, g0, g1, e0, x7, x8, x9, _, _, _⟩ := OB1.out
    have lt0 : w.heap.size < w1.heap.size := World.block_lt_of_cell? _ _ f0
    have lt1 : w.heap.size + 1 < w1.heap.size := World.block_lt_of_cell? _ _ g0
    have lt2 : w.heap.size + 1 + 1 < w1.heap.size := World.block_lt_of_cell? _ _ e0
    go_wp2_with fail
    have hal : Below w1.heap.size w1 (w1.alloc (.cells #[.int .i64 so, .slice po no qo] 24)) := (Below.refl _ _).alloc (Nat.le_refl _) _
    have zo0 : (w1.alloc (.cells #[.int .i64 so, .slice po no qo] 24)).cell? ⟨w1.heap.size, 0, none⟩ = some (.int .i64 so) := World.cell?_alloc_at _ _ _ _ rfl
    have zo1 : (w1.alloc (.cells #[.int .i64 so, .slice po no qo] 24)).cell? ⟨w1.heap.size, 1, none⟩ = some (.slice po no qo) := World.cell?_alloc_at _ _ _ _ rfl
    obtain ⟨ho, hho⟩ : ∃ h, h = w1.heap.size := ⟨_, rfl⟩
    rw [← hho] at zo0 zo1 ⊢
    generalize (w1.alloc (.cells #[.int .i64 so, .slice po no qo] 24)) = V1 at *
    have OBV1 := hid (OB1.out.step hal)
    have SZ1 := hid (Nat.le_trans SW1.out hal.size)
    have BU1 := hid (bel_of BV1.out hal)
    have KVo1 := hid (Ko1.out.below hal)
    clear hal hho lt0 lt1 lt2
    clear f0 f1 g0 g1 e0 x7 x8 x9
    refine (not_tel s1 a1 c1 l1 _ (SP1.out.below OBV1.out.be (Nat.le_refl _))).mono ?_
    rintro e w2 ⟨⟨sn, vn, ern, rfl, kn⟩, b⟩
    obtain ⟨pn, nn, qn, hv⟩ := kn.slice
    subst hv
    have OB2 := hid (OBV1.out.step b)
    have Ko2 := hid (KVo1.out.below b)
    have Kn2 := hid (kn.base (C := V0.heap.size) SZ1.out)
    have SW2 := hid (Nat.le_trans SZ1.out b.size)
    have mo0 := (b.cell (World.block_lt_of_cell? _ _ zo0)).trans zo0
    have mo1 := (b.cell (World.block_lt_of_cell? _ _ zo1)).trans zo1
    have BV2 := hid (bel_of BU1.out b)
    clear b kn zo0 zo1
    obtain ⟨_, f0, f1, g0, g1, e0, x7, x8, x9, _, _, _⟩ := OB2.out
    have lt0 : w.heap.size < w2.heap.size := World.block_lt_of_cell? _ _ f0
    have lt1 : w.heap.size + 1 < w2.heap.size := World.block_lt_of_cell? _ _ g0
    have lt2 : w.heap.size + 1 + 1 < w2.heap.size := World.block_lt_of_cell? _ _ e0
    go_wp2_with fail
    have hal : Below w2.heap.size w2 (w2.alloc (.cells #[.int .i64 sn, .slice pn nn qn] 24)) := (Below.refl _ _).alloc (Nat.le_refl _) _
    have zn0 : (w2.alloc (.cells #[.int .i64 sn, .slice pn nn qn] 24)).cell? ⟨w2.heap.size, 0, none⟩ = some (.int .i64 sn) := World.cell?_alloc_at _ _ _ _ rfl
    have zn1 : (w2.alloc (.cells #[.int .i64 sn, .slice pn nn qn] 24)).cell? ⟨w2.heap.size, 1, none⟩ = some (.slice pn nn qn) := World.cell?_alloc_at _ _ _ _ rfl
    obtain ⟨hn, hhn⟩ : ∃ h, h = w2.heap.size := ⟨_, rfl⟩
    rw [← hhn] at zn0 zn1 ⊢
    generalize (w2.alloc (.cells #[.int .i64 sn, .slice pn nn qn] 24)) = V2 at *
    have OBV2 := hid (OB2.out.step hal)
    have SZ2 := hid (Nat.le_trans SW2.out hal.size)
    have BU2 := hid (bel_of BV2.out hal)
    have KVo2 := hid (Ko2.out.below hal)
    have KVn2 := hid (Kn2.out.below hal)
    have zo0 := (hal.cell (World.block_lt_of_cell? _ _ mo0)).trans mo0
    have zo1 := (hal.cell (World.block_lt_of_cell? _ _ mo1)).trans mo1
    clear hal hhn lt0 lt1 lt2 mo0 mo1
    clear f0 f1 g0 g1 e0 x7 x8 x9
    refine (both_tel s1 s2 a1 a2 c1 c2 l1 l2 _ (SP1.out.below OBV2.out.be (Nat.le_refl _)) (SP2.out.below OBV2.out.be (Nat.le_refl _))).mono ?_
    rintro e w3 ⟨⟨st, vt, ert, rfl, kt⟩, b⟩
    obtain ⟨pt, nt, qt, hv⟩ := kt.slice
    subst hv
    have OB3 := hid (OBV2.out.step b)
    have Ko3 := hid (KVo2.out.below b)
    have Kn3 := hid (KVn2.out.below b)
    have Kt3 := hid (kt.base (C := V0.heap.size) SZ2.out)
    have SW3 := hid (Nat.le_trans SZ2.out b.size)
    have mo0 := (b.cell (World.block_lt_of_cell? _ _ zo0)).trans zo0
    have mo1 := (b.cell (World.block_lt_of_cell? _ _ zo1)).trans zo1
    have mn0 := (b.cell (World.block_lt_of_cell? _ _ zn0)).trans zn0
    have mn1 := (b.cell (World.block_lt_of_cell? _ _ zn1)).trans zn1
    have BV3 := hid (bel_of BU2.out b)
    clear b kt zo0 zo1 zn0 zn1
    obtain ⟨_, f0, f1, g0, g1, e0, x7, x8, x9, _, _, _⟩ := OB3.out
    have lt0 : w.heap.size < w3.heap.size := World.block_lt_of_cell? _ _ f0
    have lt1 : w.heap.size + 1 < w3.heap.size := World.block_lt_of_cell? _ _ g0
    have lt2 : w.heap.size + 1 + 1 < w3.heap.size := World.block_lt_of_cell? _ _ e0
    go_wp2_with fail
    have hal : Below w3.heap.size w3 (w3.alloc (.cells #[.int .i64 st, .slice pt nt qt] 24)) := (Below.refl _ _).alloc (Nat.le_refl _) _
    have zt0 : (w3.alloc (.cells #[.int .i64 st, .slice pt nt qt] 24)).cell? ⟨w3.heap.size, 0, none⟩ = some (.int .i64 st) := World.cell?_alloc_at _ _ _ _ rfl
    have zt1 : (w3.alloc (.cells #[.int .i64 st, .slice pt nt qt] 24)).cell? ⟨w3.heap.size, 1, none⟩ = some (.slice pt nt qt) := World.cell?_alloc_at _ _ _ _ rfl
    obtain ⟨ht, hht⟩ : ∃ h, h = w3.heap.size := ⟨_, rfl⟩
    rw [← hht] at zt0 zt1 ⊢
    generalize (w3.alloc (.cells #[.int .i64 st, .slice pt nt qt] 24)) = V3 at *
    have OBV3 := hid (OB3.out.step hal)
    have SZ3 := hid (Nat.le_trans SW3.out hal.size)
    have BU3 := hid (bel_of BV3.out hal)
    have KVo3 := hid (Ko3.out.below hal)
    have KVn3 := hid (Kn3.out.below hal)
    have KVt3 := hid (Kt3.out.below hal)
    have zo0 := (hal.cell (World.block_lt_of_cell? _ _ mo0)).trans mo0
    have zo1 := (hal.cell (World.block_lt_of_cell? _ _ mo1)).trans mo1
    have zn0 := (hal.cell (World.block_lt_of_cell? _ _ mn0)).trans mn0
    have zn1 := (hal.cell (World.block_lt_of_cell? _ _ mn1)).trans mn1
    clear hal hht lt0 lt1 lt2 mo0 mo1 mn0 mn1
    clear f0 f1 g0 g1 e0 x7 x8 x9
    refine (either_tel s1 s2 a1 a2 c1 c2 l1 l2 _ (SP1.out.below OBV3.out.be (Nat.le_refl _)) (SP2.out.below OBV3.out.be (Nat.le_refl _)) NZ1.out NZ2.out).mono ?_
    rintro e w4 ⟨⟨sr, vr, err, rfl, kr⟩, b⟩
    obtain ⟨pr, nr, qr, hv⟩ := kr.slice
    subst hv
    have OB4 := hid (OBV3.out.step b)
    have Ko4 := hid (KVo3.out.below b)
    have Kn4 := hid (KVn3.out.below b)
    have Kt4 := hid (KVt3.out.below b)
    have Kr4 := hid (kr.base (C := V0.heap.size) SZ3.out)
    have SW4 := hid (Nat.le_trans SZ3.out b.size)
    have mo0 := (b.cell (World.block_lt_of_cell? _ _ zo0)).trans zo0
    have mo1 := (b.cell (World.block_lt_of_cell? _ _ zo1)).trans zo1
    have mn0 := (b.cell (World.block_lt_of_cell? _ _ zn0)).trans zn0
    have mn1 := (b.cell (World.block_lt_of_cell? _ _ zn1)).trans zn1
    have mt0 := (b.cell (World.block_lt_of_cell? _ _ zt0)).trans zt0
    have mt1 := (b.cell (World.block_lt_of_cell? _ _ zt1)).trans zt1
    have BV4 := hid (bel_of BU3.out b)
    clear b kr zo0 zo1 zn0 zn1 zt0 zt1
    obtain ⟨_, f0, f1, g0, g1, e0, x7, x8, x9, _, _, _⟩ := OB4.out
    have lt0 : w.heap.size < w4.heap.size := World.block_lt_of_cell? _ _ f0
    have lt1 : w.heap.size + 1 < w4.heap.size := World.block_lt_of_cell? _ _ g0
    have lt2 : w.heap.size + 1 + 1 < w4.heap.size := World.block_lt_of_cell? _ _ e0
    go_wp2_with fail
    have hal : Below w4.heap.size w4 (w4.alloc (.cells #[.int .i64 sr, .slice pr nr qr] 24)) := (Below.refl _ _).alloc (Nat.le_refl _) _
    have zr0 : (w4.alloc (.cells #[.int .i64 sr, .slice pr nr qr] 24)).cell? ⟨w4.heap.size, 0, none⟩ = some (.int .i64 sr) := World.cell?_alloc_at _ _ _ _ rfl
    have zr1 : (w4.alloc (.cells #[.int .i64 sr, .slice pr nr qr] 24)).cell? ⟨w4.heap.size, 1, none⟩ = some (.slice pr nr qr) := World.cell?_alloc_at _ _ _ _ rfl
    obtain ⟨hr, hhr⟩ : ∃ h, h = w4.heap.size := ⟨_, rfl⟩
    rw [← hhr] at zr0 zr1 ⊢
    generalize (w4.alloc (.cells #[.int .i64 sr, .slice pr nr qr] 24)) = V4 at *
    have OBV4 := hid (OB4.out.step hal)
    have SZ4 := hid (Nat.le_trans SW4.out hal.size)
    have BU4 := hid (bel_of BV4.out hal)
    have KVo4 := hid (Ko4.out.below hal)
    have KVn4 := hid (Kn4.out.below hal)
    have KVt4 := hid (Kt4.out.below hal)
    have KVr4 := hid (Kr4.out.below hal)
    have zo0 := (hal.cell (World.block_lt_of_cell? _ _ mo0)).trans mo0
    have zo1 := (hal.cell (World.block_lt_of_cell? _ _ mo1)).trans mo1
    have zn0 := (hal.cell (World.block_lt_of_cell? _ _ mn0)).trans mn0
    have zn1 := (hal.cell (World.block_lt_of_cell? _ _ mn1)).trans mn1
    have zt0 := (hal.cell (World.block_lt_of_cell? _ _ mt0)).trans mt0
    have zt1 := (hal.cell (World.block_lt_of_cell? _ _ mt1)).trans mt1
    clear hal hhr lt0 lt1 lt2 mo0 mo1 mn0 mn1 mt0 mt1
    refine (same_tel OBV4.out SP1.out SP2.out SP3.out ML1.out ML2.out ML3.out).mono ?_
    rintro e w5 ⟨rfl, b⟩
    have OB5 := hid (OBV4.out.step b)
    have SZ5 := hid (Nat.le_trans SZ4.out b.size)
    have BU5 := hid (bel_of BU4.out b)
    have Ko5 := hid (KVo4.out.below b)
    have yo0 := (b.cell (World.block_lt_of_cell? _ _ zo0)).trans zo0
    have yo1 := (b.cell (World.block_lt_of_cell? _ _ zo1)).trans zo1
    have lto : ho < w5.heap.size := World.block_lt_of_cell? _ _ yo0
    have Kn5 := hid (KVn4.out.below b)
    have yn0 := (b.cell (World.block_lt_of_cell? _ _ zn0)).trans zn0
    have yn1 := (b.cell (World.block_lt_of_cell? _ _ zn1)).trans zn1
    have ltn : hn < w5.heap.size := World.block_lt_of_cell? _ _ yn0
    have Kt5 := hid (KVt4.out.below b)
    have yt0 := (b.cell (World.block_lt_of_cell? _ _ zt0)).trans zt0
    have yt1 := (b.cell (World.block_lt_of_cell? _ _ zt1)).trans zt1
    have ltt : ht < w5.heap.size := World.block_lt_of_cell? _ _ yt0
    have Kr5 := hid (KVr4.out.below b)
    have yr0 := (b.cell (World.block_lt_of_cell? _ _ zr0)).trans zr0
    have yr1 := (b.cell (World.block_lt_of_cell? _ _ zr1)).trans zr1
    have ltr : hr < w5.heap.size := World.block_lt_of_cell? _ _ yr0
    clear b f0 f1 g0 g1 e0 x7 x8 x9 zo0 zo1 zn0 zn1 zt0 zt1 zr0 zr1
    go_wp2_with fail
    clear yo0 yo1 lto yn0 yn1 ltn yt0 yt1 ltt yr0 yr1 ltr
    go_loopw [64] (fun v64 wr => ∃ k : Nat, k ≤ 4 ∧ v64 = .int .i64 k ∧ Kv wr V0.heap.size (.slice po no qo) ∧ Kv wr V0.heap.size (.slice pn nn qn) ∧ Kv wr V0.heap.size (.slice pt nt qt) ∧ Kv wr V0.heap.size (.slice pr nr qr) ∧ Below V0.heap.size V0 wr) (fun v64 _ => 4 - (intOf v64).toNat)
    case atStart => exact ⟨0, by omega, rfl, Ko5.out, Kn5.out, Kt5.out, Kr5.out, BU5.out⟩
    case round =>
      obtain ⟨k, hk, rfl, jo, jn, jt, jr, hb⟩ := hrel
      have hB := hid hb
      have hszr := hb.size
      have Jo := hid jo
      have Jn := hid jn
      have Jt := hid jt
      have Jr := hid jr
      clear hb jo jn jt jr
      obtain ⟨w6, hw6⟩ : ∃ x, x = wr := ⟨_, rfl⟩
      subst hw6
      have hc : k = 0 ∨ k = 1 ∨ k = 2 ∨ k = 3 ∨ k = 4 := by omega
      rcases hc with rfl | rfl | rfl | rfl | rfl
      · have ix := idx4_0
        obtain ⟨hq1, hq2, hq3, hq4⟩ := Jo.out.cap
        unfold maxLen at hq2
        go_wp2_with fail
        have hal : Below w6.heap.size w6 (w6.alloc (.cells #[.int .i64 so, .slice po no qo] 24)) := (Below.refl _ _).alloc (Nat.le_refl _) _
        go_loopw [75] (fun v75 wr => ∃ i : Nat, i ≤ qo ∧ v75 = .int .i64 i ∧ Kv wr V0.heap.size (.slice po no qo) ∧ Kv wr V0.heap.size (.slice pn nn qn) ∧ Kv wr V0.heap.size (.slice pt nt qt) ∧ Kv wr V0.heap.size (.slice pr nr qr) ∧ Below V0.heap.size V0 wr) (fun v75 _ => qo - (intOf v75).toNat)
        case atStart => exact ⟨0, by omega, rfl, Jo.out.below hal, Jn.out.below hal, Jt.out.below hal, Jr.out.below hal, hB.out.trans (hal.mono hszr)⟩
        case round =>
          obtain ⟨i, hi, rfl, jo, jn, jt, jr, hb⟩ := hrel
          have hB7 := hid hb
          have Lo := hid jo
          have Ln := hid jn
          have Lt := hid jt
          have Lr := hid jr
          by_cases hlt : i < qo
          · obtain ⟨g, rfl⟩ := jo.some_of (by omega)
            obtain ⟨hg, ⟨zz, hz⟩, hfz⟩ := jo.at i hlt
            clear hb jo jn jt jr hal
            have hgl : g < wr.heap.size := World.block_lt_of_cell? _ _ hz
            have hlt2 : (i : Int) < (qo : Int) := by omega
            go_wp2_with fail
            go_roundw
            case rel => exact ⟨i + 1, by omega, by go_num, Lo.out.set _ _, Ln.out.set _ _, Lt.out.set _ _, Lr.out.set _ _, below_set_any hB7.out hg _⟩
            case measure => simp [intOf]; omega
          · obtain rfl : i = qo := by omega
            clear hb jo jn jt jr hal
            go_wp2_with fail
            go_roundw
            case rel => exact ⟨0 + 1, by omega, by go_num, Lo.out, Ln.out, Lt.out, Lr.out, hB7.out⟩
            case measure => simp [intOf]
      · have ix := idx4_1
        obtain ⟨hq1, hq2, hq3, hq4⟩ := Jn.out.cap
        unfold maxLen at hq2
        go_wp2_with fail
        have hal : Below w6.heap.size w6 (w6.alloc (.cells #[.int .i64 sn, .slice pn nn qn] 24)) := (Below.refl _ _).alloc (Nat.le_refl _) _
        go_loopw [75] (fun v75 wr => ∃ i : Nat, i ≤ qn ∧ v75 = .int .i64 i ∧ Kv wr V0.heap.size (.slice po no qo) ∧ Kv wr V0.heap.size (.slice pn nn qn) ∧ Kv wr V0.heap.size (.slice pt nt qt) ∧ Kv wr V0.heap.size (.slice pr nr qr) ∧ Below V0.heap.size V0 wr) (fun v75 _ => qn - (intOf v75).toNat)
        case atStart => exact ⟨0, by omega, rfl, Jo.out.below hal, Jn.out.below hal, Jt.out.below hal, Jr.out.below hal, hB.out.trans (hal.mono hszr)⟩
        case round =>
          obtain ⟨i, hi, rfl, jo, jn, jt, jr, hb⟩ := hrel
          have hB7 := hid hb
          have Lo := hid jo
          have Ln := hid jn
          have Lt := hid jt
          have Lr := hid jr
          by_cases hlt : i < qn
          · obtain ⟨g, rfl⟩ := jn.some_of (by omega)
            obtain ⟨hg, ⟨zz, hz⟩, hfz⟩ := jn.at i hlt
            clear hb jo jn jt jr hal
            have hgl : g < wr.heap.size := World.block_lt_of_cell? _ _ hz
            have hlt2 : (i : Int) < (qn : Int) := by omega
            go_wp2_with fail
            go_roundw
            case rel => exact ⟨i + 1, by omega, by go_num, Lo.out.set _ _, Ln.out.set _ _, Lt.out.set _ _, Lr.out.set _ _, below_set_any hB7.out hg _⟩
            case measure => simp [intOf]; omega
          · obtain rfl : i = qn := by omega
            clear hb jo jn jt jr hal
            go_wp2_with fail
            go_roundw
            case rel => exact ⟨1 + 1, by omega, by go_num, Lo.out, Ln.out, Lt.out, Lr.out, hB7.out⟩
            case measure => simp [intOf]
      · have ix := idx4_2
        obtain ⟨hq1, hq2, hq3, hq4⟩ := Jt.out.cap
        unfold maxLen at hq2
        go_wp2_with fail
        have hal : Below w6.heap.size w6 (w6.alloc (.cells #[.int .i64 st, .slice pt nt qt] 24)) := (Below.refl _ _).alloc (Nat.le_refl _) _
        go_loopw [75] (fun v75 wr => ∃ i : Nat, i ≤ qt ∧ v75 = .int .i64 i ∧ Kv wr V0.heap.size (.slice po no qo) ∧ Kv wr V0.heap.size (.slice pn nn qn) ∧ Kv wr V0.heap.size (.slice pt nt qt) ∧ Kv wr V0.heap.size (.slice pr nr qr) ∧ Below V0.heap.size V0 wr) (fun v75 _ => qt - (intOf v75).toNat)
        case atStart => exact ⟨0, by omega, rfl, Jo.out.below hal, Jn.out.below hal, Jt.out.below hal, Jr.out.below hal, hB.out.trans (hal.mono hszr)⟩
        case round =>
          obtain ⟨i, hi, rfl, jo, jn, jt, jr, hb⟩ := hrel
          have hB7 := hid hb
          have Lo := hid jo
          have Ln := hid jn
          have Lt := hid jt
          have Lr := hid jr
          by_cases hlt : i < qt
          · obtain ⟨g, rfl⟩ := jt.some_of (by omega)
            obtain ⟨hg, ⟨zz, hz⟩, hfz⟩ := jt.at i hlt
            clear hb jo jn jt jr hal
            have hgl : g < wr.heap.size := World.block_lt_of_cell? _ _ hz
            have hlt2 : (i : Int) < (qt : Int) := by omega
            go_wp2_with fail
            go_roundw
            case rel => exact ⟨i + 1, by omega, by go_num, Lo.out.set _ _, Ln.out.set _ _, Lt.out.set _ _, Lr.out.set _ _, below_set_any hB7.out hg _⟩
            case measure => simp [intOf]; omega
          · obtain rfl : i = qt := by omega
            clear hb jo jn jt jr hal
            go_wp2_with fail
            go_roundw
            case rel => exact ⟨2 + 1, by omega, by go_num, Lo.out, Ln.out, Lt.out, Lr.out, hB7.out⟩
            case measure => simp [intOf]
      · have ix := idx4_3
        obtain ⟨hq1, hq2, hq3, hq4⟩ := Jr.out.cap
        unfold maxLen at hq2
        go_wp2_with fail
        have hal : Below w6.heap.size w6 (w6.alloc (.cells #[.int .i64 sr, .slice pr nr qr] 24)) := (Below.refl _ _).alloc (Nat.le_refl _) _
        go_loopw [75] (fun v75 wr => ∃ i : Nat, i ≤ qr ∧ v75 = .int .i64 i ∧ Kv wr V0.heap.size (.slice po no qo) ∧ Kv wr V0.heap.size (.slice pn nn qn) ∧ Kv wr V0.heap.size (.slice pt nt qt) ∧ Kv wr V0.heap.size (.slice pr nr qr) ∧ Below V0.heap.size V0 wr) (fun v75 _ => qr - (intOf v75).toNat)
        case atStart => exact ⟨0, by omega, rfl, Jo.out.below hal, Jn.out.below hal, Jt.out.below hal, Jr.out.below hal, hB.out.trans (hal.mono hszr)⟩
        case round =>
          obtain ⟨i, hi, rfl, jo, jn, jt, jr, hb⟩ := hrel
          have hB7 := hid hb
          have Lo := hid jo
          have Ln := hid jn
          have Lt := hid jt
          have Lr := hid jr
          by_cases hlt : i < qr
          · obtain ⟨g, rfl⟩ := jr.some_of (by omega)
            obtain ⟨hg, ⟨zz, hz⟩, hfz⟩ := jr.at i hlt
            clear hb jo jn jt jr hal
            have hgl : g < wr.heap.size := World.block_lt_of_cell? _ _ hz
            have hlt2 : (i : Int) < (qr : Int) := by omega
            go_wp2_with fail
            go_roundw
            case rel => exact ⟨i + 1, by omega, by go_num, Lo.out.set _ _, Ln.out.set _ _, Lt.out.set _ _, Lr.out.set _ _, below_set_any hB7.out hg _⟩
            case measure => simp [intOf]; omega
          · obtain rfl : i = qr := by omega
            clear hb jo jn jt jr hal
            go_wp2_with fail
            go_roundw
            case rel => exact ⟨3 + 1, by omega, by go_num, Lo.out, Ln.out, Lt.out, Lr.out, hB7.out⟩
            case measure => simp [intOf]
      · have OBE := hid (OBV0.out.step hB.out)
        go_wp2_with fail
        refine (lives _).mono ?_
        rintro e w8 ⟨rfl, b⟩
        have OB8 := hid (OBE.out.step b)
        clear b
        go_wp2_with fail
        refine (same_tel OB8.out SP1.out SP2.out SP3.out ML1.out ML2.out ML3.out).mono ?_
        rintro e w9 ⟨rfl, b⟩
        have OB9 := hid (OB8.out.step b)
        clear b
        go_wp2_with fail
        go_ret
        exact ⟨by first | rfl | simp, OB9.out.be⟩
  case step =>
    rintro n listed a W i ⟨b0, b1, b2, b3, b4, b5, b6, b7, b8, b9, b10, b11, b12, b13, u7, u8, u9, u24, u25, u26, u27, u28, u29, u30, u31, rfl, hn, rfl, hI⟩ hi
    obtain ⟨hf, o, ho, hall⟩ := mem_ready.1 hi
    rcases i with _ | i
    · simp at hf ho
      subst hf
      subst ho
      simp [Region.binds] at hall
      refine wpOp_step rfl ?_
      intro K' hK'
      rw [if_pos (by rfl)]
      simp only [Fr]
      go_simp
      exact hK' _ _ ⟨true, _, _, _, _, _, _, _, _, _, _, _, _, _, _, _, _, _, _, _, _, _, _, _, _, rfl, by simp [cntF, List.countP_cons] at hn ⊢; omega, rfl, { hI with h0 := fun _ => rfl }⟩
    rcases i with _ | i
    · simp at hf ho
      subst hf
      subst ho
      simp [Region.binds] at hall
      subst hall
      obtain rfl := hI.h0 rfl
      have x1 : W.cell? ⟨w.heap.size, 1, none⟩ = some (.slice a1 l1.length c1) := (hI.be.cell (by simp; try omega)).trans (by first | exact (World.cell?_alloc_lt _ _ _ (by simp; omega)).trans ((World.cell?_alloc_lt _ _ _ (by simp)).trans (World.cell?_alloc_at _ _ _ _ rfl)) | exact (World.cell?_alloc_lt _ _ _ (by simp)).trans (World.cell?_alloc_at _ _ _ _ (by simp)) | exact World.cell?_alloc_at _ _ _ _ (by simp))
      refine wpOp_step rfl ?_
      intro K' hK'
      rw [if_pos (by rfl)]
      simp only [Fr]
      go_simp
      exact hK' _ _ ⟨_, true, _, _, _, _, _, _, _, _, _, _, _, _, _, _, _, _, _, _, _, _, _, _, _, rfl, by simp [cntF, List.countP_cons] at hn ⊢; omega, rfl, { hI with h1 := fun _ => rfl }⟩
    rcases i with _ | i
    · simp at hf ho
      subst hf
      subst ho
      simp [Region.binds] at hall
      have e1 : b1 = true := by simp_all
      obtain rfl := hI.h1 e1
      refine wpOp_step rfl ?_
      intro K' hK'
      rw [if_pos (by rfl)]
      simp only [Fr]
      go_simp
      refine (C1.out _ (E0.trans (hI.be.mono (by omega)))).mono ?_
      rintro e w' ⟨⟨u, rfl, hu⟩, bb⟩
      exact hK' _ _ ⟨_, _, true, _, _, _, _, _, _, _, _, _, _, _, _, _, _, _, _, _, _, _, _, _, _, rfl, by simp [cntF, List.countP_cons] at hn ⊢; omega, rfl, { hI.grow bb with h2 := fun _ => hu, h11 := fun e => absurd (hI.k11 e).2 (by simp), k11 := fun e => absurd (hI.k11 e).2 (by simp) }⟩
    rcases i with _ | i
    · simp at hf ho
      subst hf
      subst ho
      simp [Region.binds] at hall
      refine wpOp_step rfl ?_
      intro K' hK'
      rw [if_pos (by rfl)]
      simp only [Fr]
      go_simp
      exact hK' _ _ ⟨_, _, _, true, _, _, _, _, _, _, _, _, _, _, _, _, _, _, _, _, _, _, _, _, _, rfl, by simp [cntF, List.countP_cons] at hn ⊢; omega, rfl, { hI with h3 := fun _ => rfl }⟩
    rcases i with _ | i
    · simp at hf ho
      subst hf
      subst ho
      simp [Region.binds] at hall
      subst hall
      obtain rfl := hI.h3 rfl
      have x1 : W.cell? ⟨w.heap.size + 1, 1, none⟩ = some (.slice a2 l2.length c2) := (hI.be.cell (by simp; try omega)).trans (by first | exact (World.cell?_alloc_lt _ _ _ (by simp; omega)).trans ((World.cell?_alloc_lt _ _ _ (by simp)).trans (World.cell?_alloc_at _ _ _ _ rfl)) | exact (World.cell?_alloc_lt _ _ _ (by simp)).trans (World.cell?_alloc_at _ _ _ _ (by simp)) | exact World.cell?_alloc_at _ _ _ _ (by simp))
      refine wpOp_step rfl ?_
      intro K' hK'
      rw [if_pos (by rfl)]
      simp only [Fr]
      go_simp
      exact hK' _ _ ⟨_, _, _, _, true, _, _, _, _, _, _, _, _, _, _, _, _, _, _, _, _, _, _, _, _, rfl, by simp [cntF, List.countP_cons] at hn ⊢; omega, rfl, { hI with h4 := fun _ => rfl }⟩
    rcases i with _ | i
    · simp at hf ho
      subst hf
      subst ho
      simp [Region.binds] at hall
      have e4 : b4 = true := by simp_all
      obtain rfl := hI.h4 e4
      refine wpOp_step rfl ?_
      intro K' hK'
      rw [if_pos (by rfl)]
      simp only [Fr]
      go_simp
      refine (C2.out _ (E0.trans (hI.be.mono (by omega)))).mono ?_
      rintro e w' ⟨⟨u, rfl, hu⟩, bb⟩
      exact hK' _ _ ⟨_, _, _, _, _, true, _, _, _, _, _, _, _, _, _, _, _, _, _, _, _, _, _, _, _, rfl, by simp [cntF, List.countP_cons] at hn ⊢; omega, rfl, { hI.grow bb with h5 := fun _ => hu, h12 := fun e => absurd (hI.k12 e).2 (by simp), k12 := fun e => absurd (hI.k12 e).2 (by simp) }⟩
    rcases i with _ | i
    · simp at hf ho
      subst hf
      subst ho
      simp [Region.binds] at hall
      have x1 : W.cell? ⟨w.heap.size + 1 + 1, 0, none⟩ = some (.slice a3 l3.length c3) := (hI.be.cell (by simp; try omega)).trans (by first | exact (World.cell?_alloc_lt _ _ _ (by simp; omega)).trans ((World.cell?_alloc_lt _ _ _ (by simp)).trans (World.cell?_alloc_at _ _ _ _ rfl)) | exact (World.cell?_alloc_lt _ _ _ (by simp)).trans (World.cell?_alloc_at _ _ _ _ (by simp)) | exact World.cell?_alloc_at _ _ _ _ (by simp))
      refine wpOp_step rfl ?_
      intro K' hK'
      rw [if_pos (by rfl)]
      simp only [Fr]
      go_simp
      exact hK' _ _ ⟨_, _, _, _, _, _, true, _, _, _, _, _, _, _, _, _, _, _, _, _, _, _, _, _, _, rfl, by simp [cntF, List.countP_cons] at hn ⊢; omega, rfl, { hI with h6 := fun _ => rfl }⟩
    rcases i with _ | i
    · simp at hf ho
      subst hf
      subst ho
      simp [Region.binds] at hall
      have e6 : b6 = true := by simp_all
      obtain rfl := hI.h6 e6
      refine wpOp_step rfl ?_
      intro K' hK'
      rw [if_pos (by rfl)]
      simp only [Fr]
      go_simp
      refine (C3.out _ (E0.trans (hI.be.mono (by omega)))).mono ?_
      rintro e w' ⟨⟨u, rfl, hu⟩, bb⟩
      exact hK' _ _ ⟨_, _, _, _, _, _, _, true, _, _, _, _, _, _, _, _, _, _, _, _, _, _, _, _, _, rfl, by simp [cntF, List.countP_cons] at hn ⊢; omega, rfl, { hI.grow bb with h7 := fun _ => hu, h13 := fun e => absurd (hI.k13 e).2 (by simp), k13 := fun e => absurd (hI.k13 e).2 (by simp) }⟩
    rcases i with _ | i
    · simp at hf ho
      subst hf
      subst ho
      simp [Region.binds] at hall
      have hsz := hI.be.size
      simp only [World.size_alloc] at hsz
      refine wpOp_step rfl ?_
      intro K' hK'
      rw [if_pos (by rfl)]
      simp only [Fr]
      go_simp
      exact hK' _ _ ⟨_, _, _, _, _, _, _, _, true, _, _, _, _, _, _, _, _, _, _, _, _, _, _, _, _, rfl, by simp [cntF, List.countP_cons] at hn ⊢; omega, rfl, { hI.grow ((Below.refl _ _).alloc (Nat.le_refl _) _) with h8 := fun _ => ⟨_, none, 0, 0, rfl, by omega, World.cell?_alloc_at _ _ _ _ rfl, World.frozen?_alloc_at _ _ _ _ rfl⟩, d1 := fun _ e h => ne_new (hI.h9 e) h.symm, d2 := fun _ e h => ne_new (hI.h10 e) h.symm, h11 := fun e => absurd (hI.k11 e).1 (by simp), k11 := fun e => absurd (hI.k11 e).1 (by simp) }⟩
    rcases i with _ | i
    · simp at hf ho
      subst hf
      subst ho
      simp [Region.binds] at hall
      have hsz := hI.be.size
      simp only [World.size_alloc] at hsz
      refine wpOp_step rfl ?_
      intro K' hK'
      rw [if_pos (by rfl)]
      simp only [Fr]
      go_simp
      exact hK' _ _ ⟨_, _, _, _, _, _, _, _, _, true, _, _, _, _, _, _, _, _, _, _, _, _, _, _, _, rfl, by simp [cntF, List.countP_cons] at hn ⊢; omega, rfl, { hI.grow ((Below.refl _ _).alloc (Nat.le_refl _) _) with h9 := fun _ => ⟨_, none, 0, 0, rfl, by omega, World.cell?_alloc_at _ _ _ _ rfl, World.frozen?_alloc_at _ _ _ _ rfl⟩, d1 := fun e _ h => ne_new (hI.h8 e) h, d3 := fun _ e h => ne_new (hI.h10 e) h.symm, h12 := fun e => absurd (hI.k12 e).1 (by simp), k12 := fun e => absurd (hI.k12 e).1 (by simp) }⟩
    rcases i with _ | i
    · simp at hf ho
      subst hf
      subst ho
      simp [Region.binds] at hall
      have hsz := hI.be.size
      simp only [World.size_alloc] at hsz
      refine wpOp_step rfl ?_
      intro K' hK'
      rw [if_pos (by rfl)]
      simp only [Fr]
      go_simp
      exact hK' _ _ ⟨_, _, _, _, _, _, _, _, _, _, true, _, _, _, _, _, _, _, _, _, _, _, _, _, _, rfl, by simp [cntF, List.countP_cons] at hn ⊢; omega, rfl, { hI.grow ((Below.refl _ _).alloc (Nat.le_refl _) _) with h10 := fun _ => ⟨_, none, 0, 0, rfl, by omega, World.cell?_alloc_at _ _ _ _ rfl, World.frozen?_alloc_at _ _ _ _ rfl⟩, d2 := fun e _ h => ne_new (hI.h8 e) h, d3 := fun e _ h => ne_new (hI.h9 e) h, h13 := fun e => absurd (hI.k13 e).1 (by simp), k13 := fun e => absurd (hI.k13 e).1 (by simp) }⟩
    rcases i with _ | i
    · simp at hf ho
      subst hf
      subst ho
      simp [Region.binds] at hall
      have e8 : b8 = true := by simp_all
      have e2 : b2 = true := by simp_all
      obtain ⟨b, pa, pn, pc, rfl, hB, hc, hfz⟩ := hI.h8 e8
      have hcl := hI.h2 e2
      obtain ⟨ax, cx, rfl, hs⟩ := hcl
      refine wpOp_step rfl ?_
      intro K' hK'
      rw [if_pos (by rfl)]
      simp only [Fr]
      go_simp
      exact hK' _ _ ⟨_, _, _, _, _, _, _, _, _, _, _, true, _, _, _, _, _, _, _, _, _, _, _, _, _, rfl, by simp [cntF, List.countP_cons] at hn ⊢; omega, rfl, { hI with be := below_set_ge hI.be hB _, h2 := fun e => (hI.h2 e).set ⟨_, _, _, hc⟩, h5 := fun e => (hI.h5 e).set ⟨_, _, _, hc⟩, h7 := fun e => (hI.h7 e).set ⟨_, _, _, hc⟩, h8 := fun e => (hI.h8 e).set (by rw [hc]; rfl), h9 := fun e => (hI.h9 e).set (by rw [hc]; rfl), h10 := fun e => (hI.h10 e).set (by rw [hc]; rfl), h11 := fun _ => ⟨b, rfl, World.cell?_setCell_same _ _ _ hc⟩, h12 := fun e => (hI.h12 e).set (fun h => hI.d1 e8 (hI.k12 e).1 h.symm) _, h13 := fun e => (hI.h13 e).set (fun h => hI.d2 e8 (hI.k13 e).1 h.symm) _, k11 := fun _ => ⟨e8, e2⟩ }⟩
    rcases i with _ | i
    · simp at hf ho
      subst hf
      subst ho
      simp [Region.binds] at hall
      have e9 : b9 = true := by simp_all
      have e5 : b5 = true := by simp_all
      obtain ⟨b, pa, pn, pc, rfl, hB, hc, hfz⟩ := hI.h9 e9
      have hcl := hI.h5 e5
      obtain ⟨ax, cx, rfl, hs⟩ := hcl
      refine wpOp_step rfl ?_
      intro K' hK'
      rw [if_pos (by rfl)]
      simp only [Fr]
      go_simp
      exact hK' _ _ ⟨_, _, _, _, _, _, _, _, _, _, _, _, true, _, _, _, _, _, _, _, _, _, _, _, _, rfl, by simp [cntF, List.countP_cons] at hn ⊢; omega, rfl, { hI with be := below_set_ge hI.be hB _, h2 := fun e => (hI.h2 e).set ⟨_, _, _, hc⟩, h5 := fun e => (hI.h5 e).set ⟨_, _, _, hc⟩, h7 := fun e => (hI.h7 e).set ⟨_, _, _, hc⟩, h8 := fun e => (hI.h8 e).set (by rw [hc]; rfl), h9 := fun e => (hI.h9 e).set (by rw [hc]; rfl), h10 := fun e => (hI.h10 e).set (by rw [hc]; rfl), h12 := fun _ => ⟨b, rfl, World.cell?_setCell_same _ _ _ hc⟩, h11 := fun e => (hI.h11 e).set (fun h => hI.d1 (hI.k11 e).1 e9 h) _, h13 := fun e => (hI.h13 e).set (fun h => hI.d3 e9 (hI.k13 e).1 h.symm) _, k12 := fun _ => ⟨e9, e5⟩ }⟩
    rcases i with _ | i
    · simp at hf ho
      subst hf
      subst ho
      simp [Region.binds] at hall
      have e10 : b10 = true := by simp_all
      have e7 : b7 = true := by simp_all
      obtain ⟨b, pa, pn, pc, rfl, hB, hc, hfz⟩ := hI.h10 e10
      have hcl := hI.h7 e7
      obtain ⟨ax, cx, rfl, hs⟩ := hcl
      refine wpOp_step rfl ?_
      intro K' hK'
      rw [if_pos (by rfl)]
      simp only [Fr]
      go_simp
      exact hK' _ _ ⟨_, _, _, _, _, _, _, _, _, _, _, _, _, true, _, _, _, _, _, _, _, _, _, _, _, rfl, by simp [cntF, List.countP_cons] at hn ⊢; omega, rfl, { hI with be := below_set_ge hI.be hB _, h2 := fun e => (hI.h2 e).set ⟨_, _, _, hc⟩, h5 := fun e => (hI.h5 e).set ⟨_, _, _, hc⟩, h7 := fun e => (hI.h7 e).set ⟨_, _, _, hc⟩, h8 := fun e => (hI.h8 e).set (by rw [hc]; rfl), h9 := fun e => (hI.h9 e).set (by rw [hc]; rfl), h10 := fun e => (hI.h10 e).set (by rw [hc]; rfl), h13 := fun _ => ⟨b, rfl, World.cell?_setCell_same _ _ _ hc⟩, h11 := fun e => (hI.h11 e).set (fun h => hI.d2 (hI.k11 e).1 e10 h) _, h12 := fun e => (hI.h12 e).set (fun h => hI.d3 (hI.k12 e).1 e10 h) _, k13 := fun _ => ⟨e10, e7⟩ }⟩
    · simp at ho
theorem clone_cl (a : Option Addr) (cap : Nat) (l : List Sp) (w : World) (h : Sps w a l) (nz : a = none → cap = 0) (hl : l.length * 16 ≤ 140737488355328) : (∀ W, Below w.heap.size w W → Calls Try.prog 28 #[.slice a l.length cap] W fun e w' => (∃ u, e = .returned u ∧ Cl w' u l) ∧ Below W.heap.size W w') := fun W hb =>
  (clone_any a cap l W (h.below hb (Nat.le_refl _)) nz hl).mono fun e w' ⟨⟨v, he, ho⟩, hb'⟩ => ⟨⟨v, he, by obtain ⟨x, c, rfl, hs, _, _⟩ := ho.sps; exact ⟨x, c, rfl, hs⟩⟩, hb'⟩
theorem spanOwn_walk (s1 : Int) (a1 : Option Addr) (n1 c1 : Nat) (l1 : List Sp) (s2 : Int) (a2 : Option Addr) (n2 c2 : Nat) (l2 : List Sp) (a3 : Option Addr) (n3 c3 : Nat) (l3 : List Sp) (w : World) (h1 : wf64 s1) (h2 : IsSps w a1 n1 c1 l1) (h3 : wf64 s2) (h4 : IsSps w a2 n2 c2 l2) (h5 : IsSps w a3 n3 c3 l3) (b1 : n1 * 16 ≤ 140737488355328) (b2 : n2 * 16 ≤ 140737488355328) (b3 : n3 * 16 ≤ 140737488355328) :
    Calls Try.prog 11 #[.agg #[.int .i64 s1, .slice a1 n1 c1], .agg #[.int .i64 s2, .slice a2 n2 c2], .slice a3 n3 c3] w fun e w' => e = .returned (.bool true) ∧ Below w.heap.size w w' := by
  obtain ⟨rfl, x1, x2, x3, x4, _⟩ := h2
  obtain ⟨rfl, y1, y2, y3, y4, _⟩ := h4
  obtain ⟨rfl, z1, z2, z3, z4, _⟩ := h5
  exact ow_any s1 s2 a1 a2 a3 c1 c2 c3 l1 l2 l3 w (clone_cl a1 c1 l1 w x3 (fun h => (x4 h).2) b1) (clone_cl a2 c2 l2 w y3 (fun h => (y4 h).2) b2) (clone_cl a3 c3 l3 w z3 (fun h => (z4 h).2) b3) x3 y3 z3 (fun h => (x4 h).2) (fun h => (y4 h).2) (Nat.le_trans x1 x2) (Nat.le_trans y1 y2) (Nat.le_trans z1 z2)
end SpanC
end Go.Proofs.Ytepnlfnnancnfaa
