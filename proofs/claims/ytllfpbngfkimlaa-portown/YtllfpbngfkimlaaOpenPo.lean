/- Ports, rows of ops and of texts that come in. -/
import Derived.Test.YtllfpbngfkimlaaPrtA
import Derived.Test.YtllfpbngfkimlaaSpanO
import Derived.Deep.SlicePairs
import Derived.ChangeArms
set_option linter.unusedVariables false
namespace Go.Proofs.Ytllfpbngfkimlaa
open Go.ChangeShapes Go.WideShapes Go.ChangeAt Go.RowKit
open SpanM SpanC PortC
namespace RowsO
theorem po_add {b off j k : Nat} {s : Option _} : ((⟨b, off, s⟩ : Addr).add j).add k = (⟨b, off, s⟩ : Addr).add (j + k) := by
  unfold Addr.add
  by_cases hj : j = 0 <;> by_cases hk : k = 0 <;> simp [hj, hk, Nat.add_assoc]
theorem rd_of_get {w : World} {b off : Nat} {l : List PrtM.Op} (h : ∀ i, i < l.length → w.cell? ⟨b, off + i * 3, none⟩ = some (.int .i64 (l.getD i PrtM.zOp).1) ∧ w.cell? ⟨b, off + i * 3 + 1, none⟩ = some (.int .i64 (l.getD i PrtM.zOp).2.1) ∧ w.cell? ⟨b, off + i * 3 + 2, none⟩ = some (.string (l.getD i PrtM.zOp).2.2)) : RdO w (some ⟨b, off, none⟩) l := by
  refine .inr ⟨b, off, rfl, fun i j hi hj => ?_⟩
  obtain ⟨h0, h1, h2⟩ := h i hi
  have e : l.getD i PrtM.zOp = l[i] := by simp [List.getD, hi]
  rw [e] at h0 h1 h2
  have hj : j < 3 := hj
  match j, hj with
  | 0, _ => exact h0
  | 1, _ => exact h1
  | 2, _ => exact h2
theorem rd_of_strs {w : World} {b off : Nat} {l : List ByteArray} (h : ∀ i, i < l.length → w.cell? ⟨b, off + i, none⟩ = some (.string (l.getD i PrtM.e0))) : RdS w (some ⟨b, off, none⟩) l := by
  refine .inr ⟨b, off, rfl, fun i j hi hj => ?_⟩
  have h0 := h i hi
  have e : l.getD i PrtM.e0 = l[i] := by simp [List.getD, hi]
  rw [e] at h0
  have hj : j < 1 := hj
  match j, hj with
  | 0, _ =>
    have e1 : off + i * ES.k + 0 = off + i := by show off + i * 1 + 0 = _; omega
    rw [e1]
    exact h0
/-- what is known of ops that came in -/
def IsPos (w : World) (a : Option Addr) (len cap : Nat) (l : List PrtM.Op) : Prop :=
  len = l.length ∧ len ≤ cap ∧ cap ≤ maxLen ∧ RdO w a l ∧ (a = none → len = 0 ∧ cap = 0) ∧ ∀ x ∈ l, wf64 x.1 ∧ wf64 x.2.1 ∧ x.2.2.size ≤ maxLen
/-- .. of texts -/
def IsStr (w : World) (a : Option Addr) (len cap : Nat) (l : List ByteArray) : Prop :=
  len = l.length ∧ len ≤ cap ∧ cap ≤ maxLen ∧ RdS w a l ∧ (a = none → len = 0 ∧ cap = 0) ∧ ∀ x ∈ l, x.size ≤ maxLen
set_option maxRecDepth 100000 in
theorem open_Pos {H : Type} {enc : TypeId × Value → H} {W : World} {base fuel : Nat} {spare : Nat → Bool} {held : Bool} {a : Option Addr} {len cap : Nat} {x : DataW H × List MemPlace}
    (h : DataW.trod enc Try.prog W base spare held fuel 50 [.slice a len cap] = some x) : ∃ l, IsPos W a len cap l := by
  have ce : Try.prog.cellsOf 48 = 3 := by kernel_rfl
  have ci : Try.prog.cellsOf 3 = 1 := by kernel_rfl
  have cs : Try.prog.cellsOf 9 = 1 := by kernel_rfl
  rcases Deep.open_slice Try.underlying50 h with ⟨hcs, _⟩ | ⟨p, n, c, m, k, D, Pl, hcs, _, hl, hm, hmm, _, hx⟩
  · simp at hcs
    obtain ⟨rfl, rfl, rfl⟩ := hcs
    exact ⟨[], rfl, by omega, by unfold maxLen; omega, .inl rfl, fun _ => ⟨rfl, rfl⟩, by simp⟩
  · simp at hcs
    obtain ⟨rfl, rfl, rfl⟩ := hcs
    have hlm : len ≤ m := by rw [hmm]; split <;> omega
    have each : ∀ i, i < m → ∃ z : PrtM.Op, (W.cell? (p.add (i * 3)) = some (.int .i64 z.1) ∧ W.cell? (p.add (i * 3 + 1)) = some (.int .i64 z.2.1) ∧ W.cell? (p.add (i * 3 + 2)) = some (.string z.2.2)) ∧ wf64 z.1 ∧ wf64 z.2.1 ∧ z.2.2.size ≤ maxLen := by
      intro i hi
      obtain ⟨cs', h1, h2⟩ := hx i hi
      rw [ce] at h1
      obtain ⟨_, hlen, hcell⟩ := World.cells?_some h1
      obtain ⟨xs, k', hk, hxy, _, hxl, hf⟩ := DataW.trod_struct Try.underlying48 h2
      match xs, hxl, cs', hlen with
      | [y0, y1, y2], _, [v0, v1, v2], _ =>
        have g0 := hf 0 _ rfl
        have g1 := hf 1 _ rfl
        have g2 := hf 2 _ rfl
        simp [ci, cs] at g0 g1 g2
        have e0 := hcell 0 (by omega)
        have e1 := hcell 1 (by omega)
        have e2 := hcell 2 (by omega)
        obtain ⟨pb, po, ps⟩ := p
        rw [po_add] at e0 e1 e2
        obtain ⟨u0, q0, _, w0⟩ := DataW.trod_int Try.underlying3 g0
        obtain ⟨u1, q1, _, w1⟩ := DataW.trod_int Try.underlying3 g1
        obtain ⟨u2, q2, _, w2⟩ := DataW.trod_string Try.underlying9 g2
        simp at q0 q1 q2
        subst q0; subst q1; subst q2
        exact ⟨(u0, u1, u2), ⟨by simpa using e0, by simpa using e1, by simpa using e2⟩, bounds_i64 w0, bounds_i64 w1, w2⟩
    obtain ⟨f, hf⟩ := Deep.choose_lt each
    refine ⟨(List.range len).map f, by simp, hl, hm, ?_, fun h => by simp at h, fun z hz => ?_⟩
    · by_cases h0 : len = 0
      · exact .inl (by rw [h0]; rfl)
      · obtain ⟨b, off, spot⟩ := p
        have hspot : spot = none := by simpa [Addr.add] using World.cell?_spot (hf 0 (by omega)).1.1
        subst hspot
        refine rd_of_get fun i hi => ?_
        simp at hi
        obtain ⟨⟨c0, c1, c2⟩, _⟩ := hf i (by omega)
        rw [add_none] at c0 c1 c2
        have e : ((List.range len).map f).getD i PrtM.zOp = f i := by simp [List.getD, hi]
        rw [e]
        exact ⟨c0, c1, c2⟩
    · obtain ⟨i, hi, rfl⟩ := List.mem_map.1 hz
      have := List.mem_range.1 hi
      exact (hf i (by omega)).2
set_option maxRecDepth 100000 in
theorem open_Str {H : Type} {enc : TypeId × Value → H} {W : World} {base fuel : Nat} {spare : Nat → Bool} {held : Bool} {a : Option Addr} {len cap : Nat} {x : DataW H × List MemPlace}
    (h : DataW.trod enc Try.prog W base spare held fuel 34 [.slice a len cap] = some x) : ∃ l, IsStr W a len cap l := by
  have cs : Try.prog.cellsOf 9 = 1 := by kernel_rfl
  rcases Deep.open_slice Try.underlying34 h with ⟨hcs, _⟩ | ⟨p, n, c, m, k, D, Pl, hcs, _, hl, hm, hmm, _, hx⟩
  · simp at hcs
    obtain ⟨rfl, rfl, rfl⟩ := hcs
    exact ⟨[], rfl, by omega, by unfold maxLen; omega, .inl rfl, fun _ => ⟨rfl, rfl⟩, by simp⟩
  · simp at hcs
    obtain ⟨rfl, rfl, rfl⟩ := hcs
    have hlm : len ≤ m := by rw [hmm]; split <;> omega
    have each : ∀ i, i < m → ∃ z : ByteArray, W.cell? (p.add i) = some (.string z) ∧ z.size ≤ maxLen := by
      intro i hi
      obtain ⟨cs', h1, h2⟩ := hx i hi
      rw [cs] at h1
      obtain ⟨_, hlen, hcell⟩ := World.cells?_some h1
      match cs', hlen with
      | [v0], _ =>
        have e0 := hcell 0 (by omega)
        obtain ⟨pb, po, ps⟩ := p
        rw [po_add] at e0
        obtain ⟨u0, q0, _, w0⟩ := DataW.trod_string Try.underlying9 h2
        simp at q0
        subst q0
        exact ⟨u0, by simpa using e0, w0⟩
    obtain ⟨f, hf⟩ := Deep.choose_lt each
    refine ⟨(List.range len).map f, by simp, hl, hm, ?_, fun h => by simp at h, fun z hz => ?_⟩
    · by_cases h0 : len = 0
      · exact .inl (by rw [h0]; rfl)
      · obtain ⟨b, off, spot⟩ := p
        have hspot : spot = none := by simpa [Addr.add] using World.cell?_spot (hf 0 (by omega)).1
        subst hspot
        refine rd_of_strs fun i hi => ?_
        simp at hi
        have c0 := (hf i (by omega)).1
        rw [add_none] at c0
        have e : ((List.range len).map f).getD i PrtM.e0 = f i := by simp [List.getD, hi]
        rw [e]
        exact c0
    · obtain ⟨i, hi, rfl⟩ := List.mem_map.1 hz
      have := List.mem_range.1 hi
      exact (hf i (by omega)).2
set_option maxRecDepth 100000 in
theorem open_port {H : Type} {enc : TypeId × Value → H} {W : World} {base : Nat} {r : Reach} {b0 : Nat} {spare : Nat → Bool} {held : Bool} {v : Value} {d : DataW H} {ps : List MemPlace}
    (hv : Value.okWide Try.prog W r b0 36 v) (h : DataW.Trod enc Try.prog W base spare held 36 v d ps) :
    ∃ kd sz rm fr a len cap l tm, v = .agg #[.int .i64 kd, .int .i64 sz, .int .i64 rm, .int .i64 fr, .slice a len cap, .int .i64 tm] ∧ (wf64 kd ∧ wf64 sz ∧ wf64 rm ∧ wf64 fr ∧ wf64 tm) ∧ IsStr W a len cap l := by
  obtain ⟨cs, rfl, hsz⟩ := okWide_struct Try.underlying36 hv
  obtain ⟨fuel, hf⟩ := h
  obtain ⟨xs, n, _, hx, hlen, hxl, hfs⟩ := DataW.trod_struct Try.underlying36 hf
  have hc2 : Try.prog.cellsOf 36 = 6 := by kernel_rfl
  rw [hc2] at hsz
  have c0 : Try.prog.cellsOf 3 = 1 := by kernel_rfl
  have c1 : Try.prog.cellsOf 34 = 1 := by kernel_rfl
  obtain ⟨l⟩ := cs
  match l, hsz with
  | [v0, v1, v2, v3, v4, v5], _ =>
    have g0 : DataW.trod enc Try.prog W base spare held n 3 ((([v0, v1, v2, v3, v4, v5] : List Value).drop 0).take (Try.prog.cellsOf 3)) = xs[0]? := hfs 0 _ rfl
    have g1 : DataW.trod enc Try.prog W base spare held n 3 ((([v0, v1, v2, v3, v4, v5] : List Value).drop 1).take (Try.prog.cellsOf 3)) = xs[1]? := hfs 1 _ rfl
    have g2 : DataW.trod enc Try.prog W base spare held n 3 ((([v0, v1, v2, v3, v4, v5] : List Value).drop 2).take (Try.prog.cellsOf 3)) = xs[2]? := hfs 2 _ rfl
    have g3 : DataW.trod enc Try.prog W base spare held n 3 ((([v0, v1, v2, v3, v4, v5] : List Value).drop 3).take (Try.prog.cellsOf 3)) = xs[3]? := hfs 3 _ rfl
    have g4 : DataW.trod enc Try.prog W base spare held n 34 ((([v0, v1, v2, v3, v4, v5] : List Value).drop 4).take (Try.prog.cellsOf 34)) = xs[4]? := hfs 4 _ rfl
    have g5 : DataW.trod enc Try.prog W base spare held n 3 ((([v0, v1, v2, v3, v4, v5] : List Value).drop 5).take (Try.prog.cellsOf 3)) = xs[5]? := hfs 5 _ rfl
    rw [c0] at g0 g1 g2 g3 g5
    rw [c1] at g4
    match xs, hxl with
    | [y0, y1, y2, y3, y4, y5], _ =>
      simp only [List.drop_zero, List.take_succ_cons, List.take_zero, List.drop_succ_cons, List.getElem?_cons_zero, List.getElem?_cons_succ] at g0 g1 g2 g3 g4 g5
      obtain ⟨z0, e0, _, w0⟩ := DataW.trod_int Try.underlying3 g0
      obtain ⟨z1, e1, _, w1⟩ := DataW.trod_int Try.underlying3 g1
      obtain ⟨z2, e2, _, w2⟩ := DataW.trod_int Try.underlying3 g2
      obtain ⟨z3, e3, _, w3⟩ := DataW.trod_int Try.underlying3 g3
      obtain ⟨z5, e5, _, w5⟩ := DataW.trod_int Try.underlying3 g5
      simp at e0 e1 e2 e3 e5
      have hs : ∃ a len cap, v4 = .slice a len cap := by
        rcases Deep.open_slice Try.underlying34 g4 with ⟨h, _⟩ | ⟨p, n, c, _, _, _, _, h, _⟩
        · simp at h; exact ⟨_, _, _, h⟩
        · simp at h; exact ⟨_, _, _, h⟩
      obtain ⟨a, len, cap, rfl⟩ := hs
      obtain ⟨l, hl⟩ := open_Str g4
      exact ⟨z0, z1, z2, z3, a, len, cap, l, z5, by rw [e0, e1, e2, e3, e5], ⟨bounds_i64 w0, bounds_i64 w1, bounds_i64 w2, bounds_i64 w3, bounds_i64 w5⟩, hl⟩
end RowsO
end Go.Proofs.Ytllfpbngfkimlaa
