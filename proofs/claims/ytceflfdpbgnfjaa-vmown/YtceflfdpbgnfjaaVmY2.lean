/- The law VmOwn (gen_vmo.py writes this text). -/
import Derived.Test.YtceflfdpbgnfjaaVmY1
import Derived.BigQuiet
import Derived.Deep.RegionHeld3
set_option linter.unusedVariables false
namespace Go.Proofs.Ytceflfdpbgnfjaa
open Go.RowKit
open Go.Shelf Go.Sort
open SpanM hiding good
open SpanC IntsC
open RowsO hiding Em
namespace VmC
open VmP VmM
open NumC (Row)
/-- the frame of VmOwn, around its first statement -/
def Fr (pa ra ia : Option Addr) (pcap rc ic : Nat) (p : List In) (l i : List Int) (pc : Int) (ha fa : Bool) (fuel : Int) (w : World) (u9 u10 u11 u24 u25 u26 u27 u28 u29 u30 : Value) : Act := { tmps := #[.slice pa p.length pcap, .agg #[.int .i64 pc, .slice ra l.length rc, .bool ha, .bool fa], .slice ia i.length ic, .int .i64 fuel, .pointer (some ⟨w.heap.size, 0, none⟩), .pointer (some ⟨w.heap.size + 1, 0, none⟩), .pointer (some ⟨w.heap.size + 1 + 1, 0, none⟩), undef, .bool false, u9, u10, u11, undef, undef, undef, undef, undef, undef, undef, undef, undef, undef, undef, undef, u24, u25, u26, u27, u28, u29, u30, undef, undef, undef, undef, undef, undef, undef, undef, undef, undef, undef, undef, undef, undef, undef, undef, undef, undef, undef, undef, undef, undef, undef, undef, undef, undef, undef, undef, undef, undef, undef, undef, undef, undef, undef, undef, undef, undef, undef, undef, undef, undef, undef, undef, undef, undef, undef, undef, undef, undef, undef, undef, undef, undef], defers := [] }
def Holds (w : World) (u v : Value) : Prop := ∃ b, u = .pointer (some ⟨b, 0, none⟩) ∧ w.cell? ⟨b, 0, none⟩ = some v
theorem Holds.below {w w' : World} {u v : Value} (h : Holds w u v) (hb : Below w.heap.size w w') : Holds w' u v := by
  obtain ⟨b, rfl, h1⟩ := h
  exact ⟨b, rfl, (hb.cell (World.block_lt_of_cell? _ _ h1)).trans h1⟩
theorem Holds.set {w : World} {u v : Value} (h : Holds w u v) {b : Nat} (hu : u ≠ .pointer (some ⟨b, 0, none⟩)) (v' : Value) : Holds (w.setCell ⟨b, 0, none⟩ v') u v := by
  obtain ⟨b', rfl, h1⟩ := h
  refine ⟨b', rfl, (World.cell?_setCell_other _ _ _ _ ?_).trans h1⟩
  intro e
  apply hu
  rw [e]
/-- what holds, by which operations have come up -/
structure OwI (pa ra ia : Option Addr) (pcap rc ic : Nat) (p : List In) (l i : List Int) (pc : Int) (ha fa : Bool) (fuel : Int) (w : World) (W : World) (b0 b1 b2 b3 b4 b5 b6 b7 b8 b9 b10 b11 b12 : Bool) (u9 u10 u11 u24 u25 u26 u27 u28 u29 u30 : Value) : Prop where
  be : Below (w.heap.size + 3) (((w.alloc (.cells #[.slice pa p.length pcap] 22)).alloc (.cells #[.int .i64 pc, .slice ra l.length rc, .bool ha, .bool fa] 25)).alloc (.cells #[.slice ia i.length ic] 23)) W
  h0 : b0 = true → u24 = .slice pa p.length pcap
  h1 : b1 = true → Cl0 W u25 p
  h2 : b2 = true → u26 = .pointer (some ⟨w.heap.size + 1, 1, none⟩)
  h3 : b3 = true → u27 = .slice ra l.length rc
  h4 : b4 = true → Cl1 W u28 l
  h5 : b5 = true → u29 = .slice ia i.length ic
  h6 : b6 = true → Cl1 W u30 i
  h7 : b7 = true → Bx W (w.heap.size + 3) u9
  h8 : b8 = true → Bx W (w.heap.size + 3) u10
  h9 : b9 = true → Bx W (w.heap.size + 3) u11
  d1 : b7 = true → b8 = true → u9 ≠ u10
  d2 : b7 = true → b9 = true → u9 ≠ u11
  d3 : b8 = true → b9 = true → u10 ≠ u11
  h10 : b10 = true → Holds W u9 u25
  h11 : b11 = true → Holds W u10 u28
  h12 : b12 = true → Holds W u11 u30
  k10 : b10 = true → b7 = true ∧ b1 = true
  k11 : b11 = true → b8 = true ∧ b4 = true
  k12 : b12 = true → b9 = true ∧ b6 = true
theorem OwI.grow {pa ra ia : Option Addr} {pcap rc ic : Nat} {p : List In} {l i : List Int} {pc : Int} {ha fa : Bool} {fuel : Int} {w : World} {W W' : World} {b0 b1 b2 b3 b4 b5 b6 b7 b8 b9 b10 b11 b12 : Bool} {u9 u10 u11 u24 u25 u26 u27 u28 u29 u30 : Value}
    (h : OwI pa ra ia pcap rc ic p l i pc ha fa fuel w W b0 b1 b2 b3 b4 b5 b6 b7 b8 b9 b10 b11 b12 u9 u10 u11 u24 u25 u26 u27 u28 u29 u30) (hb : Below W.heap.size W W') : OwI pa ra ia pcap rc ic p l i pc ha fa fuel w W' b0 b1 b2 b3 b4 b5 b6 b7 b8 b9 b10 b11 b12 u9 u10 u11 u24 u25 u26 u27 u28 u29 u30 where
  be := h.be.trans (hb.mono (by have := h.be.size; simpa using this))
  h0 := h.h0
  h1 := fun e => (h.h1 e).below hb
  h2 := h.h2
  h3 := h.h3
  h4 := fun e => (h.h4 e).below hb
  h5 := h.h5
  h6 := fun e => (h.h6 e).below hb
  h7 := fun e => (h.h7 e).below hb
  h8 := fun e => (h.h8 e).below hb
  h9 := fun e => (h.h9 e).below hb
  d1 := h.d1
  d2 := h.d2
  d3 := h.d3
  h10 := fun e => (h.h10 e).below hb
  h11 := fun e => (h.h11 e).below hb
  h12 := fun e => (h.h12 e).below hb
  k10 := h.k10
  k11 := h.k11
  k12 := h.k12
theorem ready_nil {md : Region.Mode} {ops : Array Oper} {listed : Array Bool} (hr : Region.ready md ops listed = []) {i : Nat} {o : Oper} (ho : ops[i]? = some o) (hall : ∀ e ∈ o.after, Region.binds md e = true → listed.getD e.on false = true) : listed.getD i true = true := by
  cases h : listed.getD i true with
  | true => rfl
  | false =>
    have : i ∈ Region.ready md ops listed := mem_ready.2 ⟨h, o, ho, hall⟩
    rw [hr] at this
    cases this
theorem ne_new {w : World} {B : Nat} {u : Value} (h : Bx w B u) : u ≠ .pointer (some ⟨w.heap.size, 0, none⟩) := by
  obtain ⟨b, a, n, c, rfl, _, h1, _⟩ := h
  have := World.block_lt_of_cell? _ _ h1
  intro e
  simp at e
  simp at this
  omega
theorem below_set_ge {B : Nat} {w W : World} {b : Nat} (h : Below B w W) (hb : B ≤ b) (v : Value) : Below B w (W.setCell ⟨b, 0, none⟩ v) := by go_grown
theorem idx0 (x0 x1 : Value) (w : World) : (Instr.index 51 (.agg #[x0, x1]) (.int .i64 0)).run Try.prog w = .ok x0 w := by kernel_rfl
theorem idx1 (x0 x1 : Value) (w : World) : (Instr.index 51 (.agg #[x0, x1]) (.int .i64 1)).run Try.prog w = .ok x1 w := by kernel_rfl
def cntF (l : List Bool) : Nat := l.countP (fun b => !b)
theorem cnt_all {b0 b1 b2 b3 b4 b5 b6 b7 b8 b9 b10 b11 b12 : Bool} (h : 0 = cntF [b0, b1, b2, b3, b4, b5, b6, b7, b8, b9, b10, b11, b12]) : b0 = true ∧ b1 = true ∧ b2 = true ∧ b3 = true ∧ b4 = true ∧ b5 = true ∧ b6 = true ∧ b7 = true ∧ b8 = true ∧ b9 = true ∧ b10 = true ∧ b11 = true ∧ b12 = true := by
  have h2 := List.countP_eq_zero.1 h.symm
  exact ⟨by have := h2 b0 (by simp); simpa using this, by have := h2 b1 (by simp); simpa using this, by have := h2 b2 (by simp); simpa using this, by have := h2 b3 (by simp); simpa using this, by have := h2 b4 (by simp); simpa using this, by have := h2 b5 (by simp); simpa using this, by have := h2 b6 (by simp); simpa using this, by have := h2 b7 (by simp); simpa using this, by have := h2 b8 (by simp); simpa using this, by have := h2 b9 (by simp); simpa using this, by have := h2 b10 (by simp); simpa using this, by have := h2 b11 (by simp); simpa using this, by have := h2 b12 (by simp); simpa using this⟩
/-- what VmOwn has behind so many of the two rows -/
structure OI (V0 wr : World) (gb cb bb : Nat) (v1 v2 : Value) (k : Nat) : Prop where
  bel : Below V0.heap.size V0 wr
  t1 : k = 0 → Kv wr V0.heap.size v1
  t2 : k ≤ 1 → Kv wr V0.heap.size v2
  kx : KX wr bb ⟨0, List.replicate 8 0, false, false⟩ gb cb
  ne : ∀ q, v1.ownBlock = some q → ∀ q2, v2.ownBlock = some q2 → q ≠ q2
  n1 : ∀ q, v1.ownBlock = some q → bb ≠ q ∧ gb ≠ q
  n2 : ∀ q, v2.ownBlock = some q → bb ≠ q ∧ gb ≠ q
section
variable {V0 wr : World} {gb cb bb : Nat} {v1 v2 : Value} {k : Nat}
theorem OI.next (h : OI V0 wr gb cb bb v1 v2 k) : OI V0 wr gb cb bb v1 v2 (k + 1) := ⟨h.bel, fun e => by omega, fun e => h.t2 (by omega), h.kx, h.ne, h.n1, h.n2⟩
theorem OI.put0 {g n c : Nat} (h : OI V0 wr gb cb bb (.slice (some ⟨g, 0, none⟩) n c) v2 0) (j : Nat) (z : Int) : OI V0 (wr.setCell ⟨g, j, none⟩ (.int .i64 z)) gb cb bb (.slice (some ⟨g, 0, none⟩) n c) v2 0 :=
  ⟨bel_set h.bel _ _ _ ((h.t1 rfl).lt g rfl).1, fun _ => (h.t1 rfl).set j z, fun e => (h.t2 e).other (fun q hq => (h.ne g rfl q hq).symm) j _, h.kx.other (h.n1 g rfl).1 (h.n1 g rfl).2 j _, h.ne, h.n1, h.n2⟩
theorem OI.put1 {g n c : Nat} (h : OI V0 wr gb cb bb v1 (.slice (some ⟨g, 0, none⟩) n c) 1) (j : Nat) (z : Int) : OI V0 (wr.setCell ⟨g, j, none⟩ (.int .i64 z)) gb cb bb v1 (.slice (some ⟨g, 0, none⟩) n c) 1 :=
  ⟨bel_set h.bel _ _ _ ((h.t2 (Nat.le_refl _)).lt g rfl).1, fun e => by omega, fun _ => (h.t2 (Nat.le_refl _)).set j z, h.kx.other (h.n2 g rfl).1 (h.n2 g rfl).2 j _, h.ne, h.n1, h.n2⟩
end
theorem same_new {V : World} {gb gc B : Nat} (h1 : Row V (some ⟨gb, 0, none⟩) (List.replicate 8 0)) (h2 : OwnI V B (vS gc 8 8) (List.replicate 8 0)) :
    Calls Try.prog 13 #[.agg (vmC 0 (vS gb 8 8) false false), .agg (vmC 0 (vS gc 8 8) false false)] V fun e w' => e = .returned (.bool true) ∧ Below V.heap.size V w' := by
  have := same_any 0 0 (some ⟨gb, 0, none⟩) (some ⟨gc, 0, none⟩) 8 8 (List.replicate 8 0) (List.replicate 8 0) false false false false V h1 (OwnI.row8 h2) (by decide)
  rw [List.length_replicate, sameB_refl] at this
  exact this
set_option maxRecDepth 20000 in
set_option maxHeartbeats 4000000 in
theorem vmOwn_any (pa ra ia : Option Addr) (pcap rc ic : Nat) (p : List In) (l i : List Int) (pc : Int) (ha fa : Bool) (fuel : Int) (w : World) (C1 : Hid (∀ W, Below w.heap.size w W → Calls Try.prog 21 #[.slice pa p.length pcap] W fun e w' => (∃ u, e = .returned u ∧ Cl0 w' u p) ∧ Below W.heap.size W w')) (C2 : Hid (∀ W, Below w.heap.size w W → Calls Try.prog 20 #[.slice ra l.length rc] W fun e w' => (∃ u, e = .returned u ∧ Cl1 w' u l) ∧ Below W.heap.size W w')) (C3 : Hid (∀ W, Below w.heap.size w W → Calls Try.prog 20 #[.slice ia i.length ic] W fun e w' => (∃ u, e = .returned u ∧ Cl1 w' u i) ∧ Below W.heap.size W w')) (HA : Hid (AR w pa ra ia p l i)) :
    Calls Try.prog 7 #[.slice pa p.length pcap, .agg #[.int .i64 pc, .slice ra l.length rc, .bool ha, .bool fa], .slice ia i.length ic, .int .i64 fuel] w fun e w' => e = .returned (.bool true) ∧ Below w.heap.size w w' := by
  have E0 : Below w.heap.size w (((w.alloc (.cells #[.slice pa p.length pcap] 22)).alloc (.cells #[.int .i64 pc, .slice ra l.length rc, .bool ha, .bool fa] 25)).alloc (.cells #[.slice ia i.length ic] 23)) := by go_grown
  have F0 : Hid ((((w.alloc (.cells #[.slice pa p.length pcap] 22)).alloc (.cells #[.int .i64 pc, .slice ra l.length rc, .bool ha, .bool fa] 25)).alloc (.cells #[.slice ia i.length ic] 23)).cell? ⟨w.heap.size, 0, none⟩ = some (.slice pa p.length pcap)) := (World.cell?_alloc_lt _ _ _ (by simp; omega)).trans ((World.cell?_alloc_lt _ _ _ (by simp)).trans (World.cell?_alloc_at _ _ _ _ rfl))
  have G0 : Hid ((((w.alloc (.cells #[.slice pa p.length pcap] 22)).alloc (.cells #[.int .i64 pc, .slice ra l.length rc, .bool ha, .bool fa] 25)).alloc (.cells #[.slice ia i.length ic] 23)).cell? ⟨w.heap.size + 1, 0, none⟩ = some (.int .i64 pc)) := (World.cell?_alloc_lt _ _ _ (by simp)).trans (World.cell?_alloc_at _ _ _ _ (by simp))
  have G1 : Hid ((((w.alloc (.cells #[.slice pa p.length pcap] 22)).alloc (.cells #[.int .i64 pc, .slice ra l.length rc, .bool ha, .bool fa] 25)).alloc (.cells #[.slice ia i.length ic] 23)).cell? ⟨w.heap.size + 1, 1, none⟩ = some (.slice ra l.length rc)) := (World.cell?_alloc_lt _ _ _ (by simp)).trans (World.cell?_alloc_at _ _ _ _ (by simp))
  have G2 : Hid ((((w.alloc (.cells #[.slice pa p.length pcap] 22)).alloc (.cells #[.int .i64 pc, .slice ra l.length rc, .bool ha, .bool fa] 25)).alloc (.cells #[.slice ia i.length ic] 23)).cell? ⟨w.heap.size + 1, 2, none⟩ = some (.bool ha)) := (World.cell?_alloc_lt _ _ _ (by simp)).trans (World.cell?_alloc_at _ _ _ _ (by simp))
  have G3 : Hid ((((w.alloc (.cells #[.slice pa p.length pcap] 22)).alloc (.cells #[.int .i64 pc, .slice ra l.length rc, .bool ha, .bool fa] 25)).alloc (.cells #[.slice ia i.length ic] 23)).cell? ⟨w.heap.size + 1, 3, none⟩ = some (.bool fa)) := (World.cell?_alloc_lt _ _ _ (by simp)).trans (World.cell?_alloc_at _ _ _ _ (by simp))
  have K0 : Hid ((((w.alloc (.cells #[.slice pa p.length pcap] 22)).alloc (.cells #[.int .i64 pc, .slice ra l.length rc, .bool ha, .bool fa] 25)).alloc (.cells #[.slice ia i.length ic] 23)).cell? ⟨w.heap.size + 1 + 1, 0, none⟩ = some (.slice ia i.length ic)) := World.cell?_alloc_at _ _ _ _ (by simp)
  go_enter Try.func7, Try.ntmps7
  go_wp2_with fail
  refine wp_region_any (by kernel_rfl) ?_
  refine wpAny_inv (fun n listed a W => ∃ b0 b1 b2 b3 b4 b5 b6 b7 b8 b9 b10 b11 b12 u9 u10 u11 u24 u25 u26 u27 u28 u29 u30, listed = #[b0, b1, b2, b3, b4, b5, b6, b7, b8, b9, b10, b11, b12] ∧ n = cntF [b0, b1, b2, b3, b4, b5, b6, b7, b8, b9, b10, b11, b12] ∧ a = Fr pa ra ia pcap rc ic p l i pc ha fa fuel w u9 u10 u11 u24 u25 u26 u27 u28 u29 u30 ∧ OwI pa ra ia pcap rc ic p l i pc ha fa fuel w W b0 b1 b2 b3 b4 b5 b6 b7 b8 b9 b10 b11 b12 u9 u10 u11 u24 u25 u26 u27 u28 u29 u30) ?step ?done ?zero 13 _ _ _ ?init
  case init =>
    refine ⟨false, false, false, false, false, false, false, false, false, false, false, false, false, undef, undef, undef, undef, undef, undef, undef, undef, undef, undef, rfl, rfl, rfl, ?_⟩
    constructor
    · exact (Below.refl _ _).drew
    all_goals (intro h; exact absurd h (by decide))
  case zero =>
    rintro listed a W ⟨b0, b1, b2, b3, b4, b5, b6, b7, b8, b9, b10, b11, b12, u9, u10, u11, u24, u25, u26, u27, u28, u29, u30, rfl, hn, rfl, hI⟩
    obtain ⟨e0, e1, e2, e3, e4, e5, e6, e7, e8, e9, e10, e11, e12⟩ := cnt_all hn
    subst e0 e1 e2 e3 e4 e5 e6 e7 e8 e9 e10 e11 e12
    rfl
  case done =>
    rintro n listed a W ⟨b0, b1, b2, b3, b4, b5, b6, b7, b8, b9, b10, b11, b12, u9, u10, u11, u24, u25, u26, u27, u28, u29, u30, rfl, hn, rfl, hI⟩ hr
    have e : b0 = true := by have := ready_nil hr (i := 0) rfl (by simp [Region.binds]); simpa using this
    subst e
    have e : b2 = true := by have := ready_nil hr (i := 2) rfl (by simp [Region.binds]); simpa using this
    subst e
    have e : b5 = true := by have := ready_nil hr (i := 5) rfl (by simp [Region.binds]); simpa using this
    subst e
    have e : b7 = true := by have := ready_nil hr (i := 7) rfl (by simp [Region.binds]); simpa using this
    subst e
    have e : b8 = true := by have := ready_nil hr (i := 8) rfl (by simp [Region.binds]); simpa using this
    subst e
    have e : b9 = true := by have := ready_nil hr (i := 9) rfl (by simp [Region.binds]); simpa using this
    subst e
    have e : b1 = true := by have := ready_nil hr (i := 1) rfl (by simp [Region.binds]); simpa using this
    subst e
    have e : b3 = true := by have := ready_nil hr (i := 3) rfl (by simp [Region.binds]); simpa using this
    subst e
    have e : b4 = true := by have := ready_nil hr (i := 4) rfl (by simp [Region.binds]); simpa using this
    subst e
    have e : b6 = true := by have := ready_nil hr (i := 6) rfl (by simp [Region.binds]); simpa using this
    subst e
    have e : b10 = true := by have := ready_nil hr (i := 10) rfl (by simp [Region.binds]); simpa using this
    subst e
    have e : b11 = true := by have := ready_nil hr (i := 11) rfl (by simp [Region.binds]); simpa using this
    subst e
    have e : b12 = true := by have := ready_nil hr (i := 12) rfl (by simp [Region.binds]); simpa using this
    subst e
    obtain ⟨xa, dp, rfl, q1⟩ := hI.h1 rfl
    obtain ⟨xr, dr, rfl, q2⟩ := hI.h4 rfl
    obtain ⟨xi, di, rfl, q3⟩ := hI.h6 rfl
    obtain ⟨b9, rfl, y9⟩ := hI.h10 rfl
    obtain ⟨b10, rfl, y10⟩ := hI.h11 rfl
    obtain ⟨b11, rfl, y11⟩ := hI.h12 rfl
    have OB0 : Hid (OW w W pa ra ia xa xr xi pcap rc ic dp dr di b9 b10 b11 p l i pc ha fa) := { be := E0.trans (hI.be.mono (by omega)), e0 := (hI.be.cell (by simp; try omega)).trans F0.out, g0 := (hI.be.cell (by simp; try omega)).trans G0.out, g1 := (hI.be.cell (by simp; try omega)).trans G1.out, g2 := (hI.be.cell (by simp; try omega)).trans G2.out, g3 := (hI.be.cell (by simp; try omega)).trans G3.out, i0 := (hI.be.cell (by simp; try omega)).trans K0.out, x9 := y9, x10 := y10, x11 := y11, p1 := q1, p2 := q2, p3 := q3 }
    obtain ⟨_, e0, g0, g1, g2, g3, i0, x9, x10, x11, _, _, _⟩ := OB0.out
    clear y9 y10 y11 q1 q2 q3 hI hr hn C1 C2 C3 F0 G0 G1 G2 G3 K0 E0
    simp only [Fr]
    go_wp2_with fail
    obtain ⟨V0, hV0⟩ : ∃ V, V = W := ⟨_, rfl⟩
    subst hV0
    clear e0 g0 g1 g2 g3 i0 x9 x10 x11
    refine (run_tel pc pa ra ia pcap rc ic p l i ha fa fuel _ (HA.out.below OB0.out.be).hp (HA.out.below OB0.out.be).hr HA.out.rl (HA.out.below OB0.out.be).hi HA.out.il HA.out.pl).mono ?_
    rintro e w1 ⟨⟨pcx, vx, hx, fx, oa, on, oc, tt, uu, er, rfl, kx⟩, b⟩
    obtain ⟨ax, nx, cx, hv⟩ := kx.slice
    subst hv
    have OB1 := hid (OB0.out.step b)
    have KX1 := hid kx
    have BV1 := hid b
    clear b kx
    go_wp2_with fail
    have hal := (Below.refl w1.heap.size w1).alloc (Nat.le_refl _) (.cells (vmC pcx (.slice ax nx cx) hx fx) 25)
    have z1 : (w1.alloc (.cells (vmC pcx (.slice ax nx cx) hx fx) 25)).cell? ⟨w1.heap.size, 1, none⟩ = some (.slice ax nx cx) := World.cell?_alloc_at _ _ _ _ rfl
    obtain ⟨hx1, hhx⟩ : ∃ h, h = w1.heap.size := ⟨_, rfl⟩
    rw [← hhx] at z1 ⊢
    generalize w1.alloc (.cells (vmC pcx (.slice ax nx cx) hx fx) 25) = V1 at *
    have OBV1 := hid (OB1.out.step hal)
    have KXV1 := hid (KX1.out.below hal (Nat.le_refl _))
    have BVV1 := hid (BV1.out.trans (hal.mono BV1.out.size))
    have ZX1 := hid z1
    clear hal hhx OB1 KX1 BV1 z1
    refine (new_any _).mono ?_
    rintro e w2 ⟨⟨ga, rfl, hoa⟩, b⟩
    have OB2 := hid (OBV1.out.step b)
    have KX2 := hid (KXV1.out.below b (Nat.le_refl _))
    have BV2 := hid (BVV1.out.trans (b.mono BVV1.out.size))
    have ZX2 := hid ((b.cell (World.block_lt_of_cell? _ _ ZX1.out)).trans ZX1.out)
    have KA2 := hid (Kv.full hoa)
    have S12 := hid b.size
    clear b hoa
    go_wp2_with fail
    refine (new_any _).mono ?_
    rintro e w3 ⟨⟨gb, rfl, hob⟩, b⟩
    have OB3 := hid (OB2.out.step b)
    have KX3 := hid (KX2.out.below b (Nat.le_refl _))
    have BV3 := hid (BV2.out.trans (b.mono BV2.out.size))
    have ZX3 := hid ((b.cell (World.block_lt_of_cell? _ _ ZX2.out)).trans ZX2.out)
    have KA3 := hid (KA2.out.below b (Nat.le_refl _))
    have HOB := hid hob
    have S23 := hid b.size
    clear b hob
    go_wp2_with fail
    have hal := ((Below.refl w3.heap.size w3).alloc (Nat.le_refl _) (.cells (vmC 0 (vS ga 8 8) false false) 25)).alloc (by rw [World.size_alloc]; omega) (.cells (vmC 0 (vS gb 8 8) false false) 25)
    have za : ((w3.alloc (.cells (vmC 0 (vS ga 8 8) false false) 25)).alloc (.cells (vmC 0 (vS gb 8 8) false false) 25)).cell? ⟨w3.heap.size, 1, none⟩ = some (vS ga 8 8) := (World.cell?_alloc_lt _ _ _ (by simp)).trans (World.cell?_alloc_at _ _ _ _ rfl)
    have kb : KX ((w3.alloc (.cells (vmC 0 (vS ga 8 8) false false) 25)).alloc (.cells (vmC 0 (vS gb 8 8) false false) 25)) (w3.heap.size + 1) ⟨0, List.replicate 8 0, false, false⟩ gb 8 := by
      have := KX.new (s := ⟨0, List.replicate 8 0, false, false⟩) (OwnI.below HOB.out ((Below.refl w3.heap.size w3).alloc (Nat.le_refl _) (.cells (vmC 0 (vS ga 8 8) false false) 25)) (Nat.le_refl _))
      rwa [World.size_alloc] at this
    obtain ⟨hy, hhy⟩ : ∃ h, h = w3.heap.size := ⟨_, rfl⟩
    rw [← hhy] at za kb ⊢
    generalize (w3.alloc (.cells (vmC 0 (vS ga 8 8) false false) 25)).alloc (.cells (vmC 0 (vS gb 8 8) false false) 25) = V3 at *
    have OBV3 := hid (OB3.out.step hal)
    have OIV3 : Hid (OI V0 V3 gb 8 (hy + 1) (.slice ax nx cx) (vS ga 8 8) 0) := by
      have l1 := KXV1.out.lt
      have l2 := KA2.out.lt ga rfl
      have l3 := (Kv.full HOB.out).lt gb rfl
      have l4 := S12.out
      have l5 := S23.out
      have l6 := BVV1.out.size
      exact ⟨BV3.out.trans (hal.mono BV3.out.size), fun _ => KX3.out.below hal (Nat.le_refl _), fun _ => (KA3.out.below hal (Nat.le_refl _)).base l6, kb, fun q hq q2 hq2 => by (have := l1 q hq; simp [Value.ownBlock] at hq2; omega), fun q hq => by (have := l1 q hq; omega), fun q hq => by (simp [Value.ownBlock] at hq; omega)⟩
    have ZX4 := hid ((hal.cell (World.block_lt_of_cell? _ _ ZX3.out)).trans ZX3.out)
    have ZA4 := hid za
    clear hal za kb hhy OB3 KX3 KA3 BV3 ZX3 HOB S12 S23 KA2 KXV1 BVV1 ZX1 KX2 ZX2 BV2 OB2 OBV1
    refine (same_tel OBV3.out HA.out).mono ?_
    rintro e w4 ⟨rfl, b⟩
    have OB4 := hid (OBV3.out.step b)
    have OI4 : Hid (OI V0 w4 gb 8 (hy + 1) (.slice ax nx cx) (vS ga 8 8) 0) := by
      have q := OIV3.out
      exact ⟨q.bel.trans (b.mono q.bel.size), fun e => (q.t1 e).below b (Nat.le_refl _), fun e => (q.t2 e).below b (Nat.le_refl _), q.kx.below b (Nat.le_refl _), q.ne, q.n1, q.n2⟩
    have zx := (b.cell (World.block_lt_of_cell? _ _ ZX4.out)).trans ZX4.out
    have za := (b.cell (World.block_lt_of_cell? _ _ ZA4.out)).trans ZA4.out
    clear b ZX4 ZA4 OIV3 OBV3
    go_wp2_with fail
    clear zx za
    go_loopw [52] (fun v52 wr => ∃ k : Nat, k ≤ 2 ∧ v52 = .int .i64 k ∧ Hid (OI V0 wr gb 8 (hy + 1) (.slice ax nx cx) (vS ga 8 8) k)) (fun v52 _ => 2 - (intOf v52).toNat)
    case atStart => exact ⟨0, by omega, rfl, OI4.out⟩
    case round =>
      obtain ⟨k, hk, rfl, HI⟩ := hrel
      rcases (show k = 0 ∨ k = 1 ∨ k = 2 by omega) with rfl | rfl | rfl
      · have hidx := idx0
        have HT := hid (HI.out.t1 rfl)
        rcases HT.out with hv | ⟨g, n', cap', cur, hv, hgB, _⟩
        · simp only [Value.slice.injEq] at hv
          obtain ⟨hv1, hv2, hv3⟩ := hv
          subst hv1 hv2 hv3
          go_wp2_with fail
          go_loopw [61] (fun v61 wq => v61 = .int .i64 0 ∧ Hid (OI V0 wq gb 8 (hy + 1) (.slice none 0 0) (vS ga 8 8) 0)) (fun v61 _ => 0)
          case atStart => exact ⟨rfl, HI.out⟩
          case round =>
            obtain ⟨rfl, HJ⟩ := hrel
            go_wp2_with fail
            exact ⟨⟨1, by omega, rfl, HJ.out.next⟩, by simp [intOf]⟩
        · simp only [Value.slice.injEq] at hv
          obtain ⟨hv1, hv2, hv3⟩ := hv
          subst hv1 hv2 hv3
          obtain ⟨hnc, hcm⟩ := HT.out.cap
          unfold maxLen at hcm
          have i0 : (cx : Int) ≤ (cx : Int) := by omega
          have i9 : (0 : Int) ≤ (cx : Int) := by omega
          go_wp2_with fail
          go_loopw [61] (fun v61 wq => ∃ i : Nat, i ≤ cx ∧ v61 = .int .i64 i ∧ Hid (OI V0 wq gb 8 (hy + 1) (.slice (some ⟨g, 0, none⟩) nx cx) (vS ga 8 8) 0)) (fun v61 _ => cx - (intOf v61).toNat)
          case atStart => exact ⟨0, by omega, rfl, HI.out⟩
          case round =>
            obtain ⟨i, hi, rfl, HJ⟩ := hrel
            by_cases hlt : i < cx
            · obtain ⟨z, hz, hfz⟩ := (HJ.out.t1 rfl).get hlt
              have i1 : (i : Int) < (cx : Int) := by omega
              go_wp2_with fail
              exact ⟨⟨i + 1, by omega, by go_num, HJ.out.put0 _ _⟩, by simp [intOf]; omega⟩
            · obtain rfl : i = cx := by omega
              go_wp2_with fail
              exact ⟨⟨1, by omega, rfl, HJ.out.next⟩, by simp [intOf]⟩
      · have hidx := idx1
        have i0 : (8 : Int) ≤ (8 : Int) := by omega
        have i9 : (0 : Int) ≤ (8 : Int) := by omega
        go_wp2_with fail
        go_loopw [61] (fun v61 wq => ∃ i : Nat, i ≤ 8 ∧ v61 = .int .i64 i ∧ Hid (OI V0 wq gb 8 (hy + 1) (.slice ax nx cx) (vS ga 8 8) 1)) (fun v61 _ => 8 - (intOf v61).toNat)
        case atStart => exact ⟨0, by omega, rfl, HI.out⟩
        case round =>
          obtain ⟨i, hi, rfl, HJ⟩ := hrel
          by_cases hlt : i < 8
          · obtain ⟨z, hz, hfz⟩ := (HJ.out.t2 (Nat.le_refl _)).get hlt
            have i1 : (i : Int) < (8 : Int) := by omega
            go_wp2_with fail
            exact ⟨⟨i + 1, by omega, by go_num, HJ.out.put1 _ _⟩, by simp [intOf]; omega⟩
          · obtain rfl : i = 8 := by omega
            go_wp2_with fail
            exact ⟨⟨2, by omega, rfl, HJ.out.next⟩, by simp [intOf]⟩
      · have OB5 := hid (OB0.out.step HI.out.bel)
        have KB5 := hid HI.out.kx
        obtain ⟨y0, y1, y2, y3⟩ := KX.c KB5.out
        clear HI OI4 OB4
        go_upto_region 16 with fail
        go_region_held3 (fun V => V.cell? ⟨hy + 1, 0, none⟩ = some (.int .i64 0) ∧ V.cell? ⟨hy + 1, 1, none⟩ = some (vS gb 8 8) ∧ V.cell? ⟨hy + 1, 2, none⟩ = some (.bool false) ∧ V.cell? ⟨hy + 1, 3, none⟩ = some (.bool false)) (go_keep)
          (first
            | (go_at_call 18
               refine (vmLives_any _).mono ?_
               rintro e w6 ⟨rfl, hb6⟩
               have hb6' : Below wr.heap.size wr w6 := (Below.refl _ _).drew.trans hb6
               have OB6 := hid (OB5.out.step hb6')
               have HK6 := hid (KB5.out.below hb6' (Nat.le_refl _))
               obtain ⟨z0, z1, z2, z3⟩ := KX.c HK6.out
               clear hb6 hb6')
            | (go_at_call 22
               refine (same_tel OB6.out HA.out).mono ?_
               rintro e w7 ⟨rfl, hb7⟩
               have OB7 := hid (OB6.out.step hb7)
               have HK7 := hid (HK6.out.below hb7 (Nat.le_refl _))
               clear z0 z1 z2 z3
               obtain ⟨z0, z1, z2, z3⟩ := KX.c HK7.out
               clear hb7)
            | (go_at_call 14
               refine (new_any _).mono ?_
               rintro e w8 ⟨⟨gc, rfl, hoc⟩, hb8⟩
               have OB8 := hid (OB7.out.step hb8)
               have HK8 := hid (HK7.out.below hb8 (Nat.le_refl _))
               have HOC := hid hoc
               clear z0 z1 z2 z3
               obtain ⟨z0, z1, z2, z3⟩ := KX.c HK8.out
               clear hb8 hoc)
            | (go_at_call 13
               refine (same_new HK8.out.row HOC.out).mono ?_
               rintro e w9 ⟨rfl, hb9⟩
               have OB9 := hid (OB8.out.step hb9)
               clear z0 z1 z2 z3
               obtain ⟨z0, z1, z2, z3⟩ := KX.c (HK8.out.below hb9 (Nat.le_refl _))
               clear hb9))
        all_goals (go_wp2_with fail)
        all_goals go_ret
        all_goals exact ⟨rfl, OB9.out.be⟩
  case step =>
    rintro n listed a W j ⟨b0, b1, b2, b3, b4, b5, b6, b7, b8, b9, b10, b11, b12, u9, u10, u11, u24, u25, u26, u27, u28, u29, u30, rfl, hn, rfl, hI⟩ hi
    obtain ⟨hf, o, ho, hall⟩ := mem_ready.1 hi
    rcases j with _ | j
    · simp at hf ho
      subst hf
      subst ho
      simp [Region.binds] at hall
      have x1 : W.cell? ⟨w.heap.size, 0, none⟩ = some (.slice pa p.length pcap) := (hI.be.cell (by simp; try omega)).trans (by first | exact (World.cell?_alloc_lt _ _ _ (by simp; omega)).trans ((World.cell?_alloc_lt _ _ _ (by simp)).trans (World.cell?_alloc_at _ _ _ _ rfl)) | exact (World.cell?_alloc_lt _ _ _ (by simp)).trans (World.cell?_alloc_at _ _ _ _ (by simp)) | exact World.cell?_alloc_at _ _ _ _ (by simp))
      refine wpOp_step rfl ?_
      intro K' hK'
      rw [if_pos (by rfl)]
      simp only [Fr]
      go_simp
      exact hK' _ _ ⟨true, _, _, _, _, _, _, _, _, _, _, _, _, _, _, _, _, _, _, _, _, _, _, rfl, by simp [cntF, List.countP_cons] at hn ⊢; omega, rfl, { hI with h0 := fun _ => rfl }⟩
    rcases j with _ | j
    · simp at hf ho
      subst hf
      subst ho
      simp [Region.binds] at hall
      have e0 : b0 = true := by simp_all
      obtain rfl := hI.h0 e0
      refine wpOp_step rfl ?_
      intro K' hK'
      rw [if_pos (by rfl)]
      simp only [Fr]
      go_simp
      refine (C1.out _ (E0.trans (hI.be.mono (by omega)))).mono ?_
      rintro e w' ⟨⟨u, rfl, hu⟩, bb⟩
      exact hK' _ _ ⟨_, true, _, _, _, _, _, _, _, _, _, _, _, _, _, _, _, _, _, _, _, _, _, rfl, by simp [cntF, List.countP_cons] at hn ⊢; omega, rfl, { hI.grow bb with h1 := fun _ => hu, h10 := fun e => absurd (hI.k10 e).2 (by simp), k10 := fun e => absurd (hI.k10 e).2 (by simp) }⟩
    rcases j with _ | j
    · simp at hf ho
      subst hf
      subst ho
      simp [Region.binds] at hall
      refine wpOp_step rfl ?_
      intro K' hK'
      rw [if_pos (by rfl)]
      simp only [Fr]
      go_simp
      exact hK' _ _ ⟨_, _, true, _, _, _, _, _, _, _, _, _, _, _, _, _, _, _, _, _, _, _, _, rfl, by simp [cntF, List.countP_cons] at hn ⊢; omega, rfl, { hI with h2 := fun _ => rfl }⟩
    rcases j with _ | j
    · simp at hf ho
      subst hf
      subst ho
      simp [Region.binds] at hall
      have e2 : b2 = true := by simp_all
      obtain rfl := hI.h2 e2
      have x1 : W.cell? ⟨w.heap.size + 1, 1, none⟩ = some (.slice ra l.length rc) := (hI.be.cell (by simp; try omega)).trans (by first | exact (World.cell?_alloc_lt _ _ _ (by simp; omega)).trans ((World.cell?_alloc_lt _ _ _ (by simp)).trans (World.cell?_alloc_at _ _ _ _ rfl)) | exact (World.cell?_alloc_lt _ _ _ (by simp)).trans (World.cell?_alloc_at _ _ _ _ (by simp)) | exact World.cell?_alloc_at _ _ _ _ (by simp))
      refine wpOp_step rfl ?_
      intro K' hK'
      rw [if_pos (by rfl)]
      simp only [Fr]
      go_simp
      exact hK' _ _ ⟨_, _, _, true, _, _, _, _, _, _, _, _, _, _, _, _, _, _, _, _, _, _, _, rfl, by simp [cntF, List.countP_cons] at hn ⊢; omega, rfl, { hI with h3 := fun _ => rfl }⟩
    rcases j with _ | j
    · simp at hf ho
      subst hf
      subst ho
      simp [Region.binds] at hall
      have e3 : b3 = true := by simp_all
      obtain rfl := hI.h3 e3
      refine wpOp_step rfl ?_
      intro K' hK'
      rw [if_pos (by rfl)]
      simp only [Fr]
      go_simp
      refine (C2.out _ (E0.trans (hI.be.mono (by omega)))).mono ?_
      rintro e w' ⟨⟨u, rfl, hu⟩, bb⟩
      exact hK' _ _ ⟨_, _, _, _, true, _, _, _, _, _, _, _, _, _, _, _, _, _, _, _, _, _, _, rfl, by simp [cntF, List.countP_cons] at hn ⊢; omega, rfl, { hI.grow bb with h4 := fun _ => hu, h11 := fun e => absurd (hI.k11 e).2 (by simp), k11 := fun e => absurd (hI.k11 e).2 (by simp) }⟩
    rcases j with _ | j
    · simp at hf ho
      subst hf
      subst ho
      simp [Region.binds] at hall
      have x1 : W.cell? ⟨w.heap.size + 1 + 1, 0, none⟩ = some (.slice ia i.length ic) := (hI.be.cell (by simp; try omega)).trans (by first | exact (World.cell?_alloc_lt _ _ _ (by simp; omega)).trans ((World.cell?_alloc_lt _ _ _ (by simp)).trans (World.cell?_alloc_at _ _ _ _ rfl)) | exact (World.cell?_alloc_lt _ _ _ (by simp)).trans (World.cell?_alloc_at _ _ _ _ (by simp)) | exact World.cell?_alloc_at _ _ _ _ (by simp))
      refine wpOp_step rfl ?_
      intro K' hK'
      rw [if_pos (by rfl)]
      simp only [Fr]
      go_simp
      exact hK' _ _ ⟨_, _, _, _, _, true, _, _, _, _, _, _, _, _, _, _, _, _, _, _, _, _, _, rfl, by simp [cntF, List.countP_cons] at hn ⊢; omega, rfl, { hI with h5 := fun _ => rfl }⟩
    rcases j with _ | j
    · simp at hf ho
      subst hf
      subst ho
      simp [Region.binds] at hall
      have e5 : b5 = true := by simp_all
      obtain rfl := hI.h5 e5
      refine wpOp_step rfl ?_
      intro K' hK'
      rw [if_pos (by rfl)]
      simp only [Fr]
      go_simp
      refine (C3.out _ (E0.trans (hI.be.mono (by omega)))).mono ?_
      rintro e w' ⟨⟨u, rfl, hu⟩, bb⟩
      exact hK' _ _ ⟨_, _, _, _, _, _, true, _, _, _, _, _, _, _, _, _, _, _, _, _, _, _, _, rfl, by simp [cntF, List.countP_cons] at hn ⊢; omega, rfl, { hI.grow bb with h6 := fun _ => hu, h12 := fun e => absurd (hI.k12 e).2 (by simp), k12 := fun e => absurd (hI.k12 e).2 (by simp) }⟩
    rcases j with _ | j
    · simp at hf ho
      subst hf
      subst ho
      simp [Region.binds] at hall
      have hsz := hI.be.size
      simp only [World.size_alloc] at hsz
      refine wpOp_step rfl ?_
      intro K' hK'
      rw [if_pos (by rfl)]
      simp only [Fr]
      go_simp
      exact hK' _ _ ⟨_, _, _, _, _, _, _, true, _, _, _, _, _, _, _, _, _, _, _, _, _, _, _, rfl, by simp [cntF, List.countP_cons] at hn ⊢; omega, rfl, { hI.grow ((Below.refl _ _).alloc (Nat.le_refl _) _) with h7 := fun _ => ⟨_, none, 0, 0, rfl, by omega, World.cell?_alloc_at _ _ _ _ rfl, World.frozen?_alloc_at _ _ _ _ rfl⟩, d1 := fun _ e h => ne_new (hI.h8 e) h.symm, d2 := fun _ e h => ne_new (hI.h9 e) h.symm, h10 := fun e => absurd (hI.k10 e).1 (by simp), k10 := fun e => absurd (hI.k10 e).1 (by simp) }⟩
    rcases j with _ | j
    · simp at hf ho
      subst hf
      subst ho
      simp [Region.binds] at hall
      have hsz := hI.be.size
      simp only [World.size_alloc] at hsz
      refine wpOp_step rfl ?_
      intro K' hK'
      rw [if_pos (by rfl)]
      simp only [Fr]
      go_simp
      exact hK' _ _ ⟨_, _, _, _, _, _, _, _, true, _, _, _, _, _, _, _, _, _, _, _, _, _, _, rfl, by simp [cntF, List.countP_cons] at hn ⊢; omega, rfl, { hI.grow ((Below.refl _ _).alloc (Nat.le_refl _) _) with h8 := fun _ => ⟨_, none, 0, 0, rfl, by omega, World.cell?_alloc_at _ _ _ _ rfl, World.frozen?_alloc_at _ _ _ _ rfl⟩, d1 := fun e _ h => ne_new (hI.h7 e) h, d3 := fun _ e h => ne_new (hI.h9 e) h.symm, h11 := fun e => absurd (hI.k11 e).1 (by simp), k11 := fun e => absurd (hI.k11 e).1 (by simp) }⟩
    rcases j with _ | j
    · simp at hf ho
      subst hf
      subst ho
      simp [Region.binds] at hall
      have hsz := hI.be.size
      simp only [World.size_alloc] at hsz
      refine wpOp_step rfl ?_
      intro K' hK'
      rw [if_pos (by rfl)]
      simp only [Fr]
      go_simp
      exact hK' _ _ ⟨_, _, _, _, _, _, _, _, _, true, _, _, _, _, _, _, _, _, _, _, _, _, _, rfl, by simp [cntF, List.countP_cons] at hn ⊢; omega, rfl, { hI.grow ((Below.refl _ _).alloc (Nat.le_refl _) _) with h9 := fun _ => ⟨_, none, 0, 0, rfl, by omega, World.cell?_alloc_at _ _ _ _ rfl, World.frozen?_alloc_at _ _ _ _ rfl⟩, d2 := fun e _ h => ne_new (hI.h7 e) h, d3 := fun e _ h => ne_new (hI.h8 e) h, h12 := fun e => absurd (hI.k12 e).1 (by simp), k12 := fun e => absurd (hI.k12 e).1 (by simp) }⟩
    rcases j with _ | j
    · simp at hf ho
      subst hf
      subst ho
      simp [Region.binds] at hall
      have e7 : b7 = true := by simp_all
      have e1 : b1 = true := by simp_all
      obtain ⟨b, qa, qn, qc, rfl, hB, hc, hfz⟩ := hI.h7 e7
      have hcl := hI.h1 e1
      obtain ⟨ax, cx, rfl, hs⟩ := hcl
      refine wpOp_step rfl ?_
      intro K' hK'
      rw [if_pos (by rfl)]
      simp only [Fr]
      go_simp
      exact hK' _ _ ⟨_, _, _, _, _, _, _, _, _, _, true, _, _, _, _, _, _, _, _, _, _, _, _, rfl, by simp [cntF, List.countP_cons] at hn ⊢; omega, rfl, { hI with be := below_set_ge hI.be hB _, h1 := fun e => (hI.h1 e).set ⟨_, _, _, hc⟩, h4 := fun e => (hI.h4 e).set ⟨_, _, _, hc⟩, h6 := fun e => (hI.h6 e).set ⟨_, _, _, hc⟩, h7 := fun e => (hI.h7 e).set (by rw [hc]; rfl), h8 := fun e => (hI.h8 e).set (by rw [hc]; rfl), h9 := fun e => (hI.h9 e).set (by rw [hc]; rfl), h10 := fun _ => ⟨b, rfl, World.cell?_setCell_same _ _ _ hc⟩, h11 := fun e => (hI.h11 e).set (fun h => hI.d1 e7 (hI.k11 e).1 h.symm) _, h12 := fun e => (hI.h12 e).set (fun h => hI.d2 e7 (hI.k12 e).1 h.symm) _, k10 := fun _ => ⟨e7, e1⟩ }⟩
    rcases j with _ | j
    · simp at hf ho
      subst hf
      subst ho
      simp [Region.binds] at hall
      have e8 : b8 = true := by simp_all
      have e4 : b4 = true := by simp_all
      obtain ⟨b, qa, qn, qc, rfl, hB, hc, hfz⟩ := hI.h8 e8
      have hcl := hI.h4 e4
      obtain ⟨ax, cx, rfl, hs⟩ := hcl
      refine wpOp_step rfl ?_
      intro K' hK'
      rw [if_pos (by rfl)]
      simp only [Fr]
      go_simp
      exact hK' _ _ ⟨_, _, _, _, _, _, _, _, _, _, _, true, _, _, _, _, _, _, _, _, _, _, _, rfl, by simp [cntF, List.countP_cons] at hn ⊢; omega, rfl, { hI with be := below_set_ge hI.be hB _, h1 := fun e => (hI.h1 e).set ⟨_, _, _, hc⟩, h4 := fun e => (hI.h4 e).set ⟨_, _, _, hc⟩, h6 := fun e => (hI.h6 e).set ⟨_, _, _, hc⟩, h7 := fun e => (hI.h7 e).set (by rw [hc]; rfl), h8 := fun e => (hI.h8 e).set (by rw [hc]; rfl), h9 := fun e => (hI.h9 e).set (by rw [hc]; rfl), h11 := fun _ => ⟨b, rfl, World.cell?_setCell_same _ _ _ hc⟩, h10 := fun e => (hI.h10 e).set (fun h => hI.d1 (hI.k10 e).1 e8 h) _, h12 := fun e => (hI.h12 e).set (fun h => hI.d3 e8 (hI.k12 e).1 h.symm) _, k11 := fun _ => ⟨e8, e4⟩ }⟩
    rcases j with _ | j
    · simp at hf ho
      subst hf
      subst ho
      simp [Region.binds] at hall
      have e9 : b9 = true := by simp_all
      have e6 : b6 = true := by simp_all
      obtain ⟨b, qa, qn, qc, rfl, hB, hc, hfz⟩ := hI.h9 e9
      have hcl := hI.h6 e6
      obtain ⟨ax, cx, rfl, hs⟩ := hcl
      refine wpOp_step rfl ?_
      intro K' hK'
      rw [if_pos (by rfl)]
      simp only [Fr]
      go_simp
      exact hK' _ _ ⟨_, _, _, _, _, _, _, _, _, _, _, _, true, _, _, _, _, _, _, _, _, _, _, rfl, by simp [cntF, List.countP_cons] at hn ⊢; omega, rfl, { hI with be := below_set_ge hI.be hB _, h1 := fun e => (hI.h1 e).set ⟨_, _, _, hc⟩, h4 := fun e => (hI.h4 e).set ⟨_, _, _, hc⟩, h6 := fun e => (hI.h6 e).set ⟨_, _, _, hc⟩, h7 := fun e => (hI.h7 e).set (by rw [hc]; rfl), h8 := fun e => (hI.h8 e).set (by rw [hc]; rfl), h9 := fun e => (hI.h9 e).set (by rw [hc]; rfl), h12 := fun _ => ⟨b, rfl, World.cell?_setCell_same _ _ _ hc⟩, h10 := fun e => (hI.h10 e).set (fun h => hI.d2 (hI.k10 e).1 e9 h) _, h11 := fun e => (hI.h11 e).set (fun h => hI.d3 (hI.k11 e).1 e9 h) _, k12 := fun _ => ⟨e9, e6⟩ }⟩
    · simp at ho
end VmC
end Go.Proofs.Ytceflfdpbgnfjaa
