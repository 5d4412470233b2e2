/- Contracts: the queue's Push and Pop. -/
import Derived.Test.YtgplaoojimpbaaaHpC
import Derived.Deep.AppendLies
import Derived.Deep.RegionLaw
set_option linter.unusedVariables false
namespace Go.Proofs.Ytgplaoojimpbaaa
open Go.RowKit hiding tok
open Go.Shelf Go.Sort
open SpanM SpanC PlayM
namespace PlayC
open RowG
/-- but the box, the row behind it and what is new, all is as it was -/
structure Ch (bx : Nat) (o : Option Nat) (w w' : World) : Prop where
  os : w'.os = w.os
  tape : w'.tape = w.tape
  output : w'.output = w.output
  size : w.heap.size ≤ w'.heap.size
  block : ∀ k, k < w.heap.size → k ≠ bx → some k ≠ o → w'.heap[k]? = w.heap[k]?
theorem Ch.of {bx : Nat} {o : Option Nat} {w w' : World} (h : w.grownBy w' o) : Ch bx o w w' := ⟨h.os, h.tape, h.output, h.size, fun k hk _ ho => h.block k hk ho⟩
theorem Ch.refl (bx : Nat) (o : Option Nat) (w : World) : Ch bx o w w := Ch.of (grown_refl _ _)
theorem Ch.trans {bx : Nat} {o o' : Option Nat} {w w1 w2 : World} (h : Ch bx o w w1) (h' : Ch bx o' w1 w2) (ho : o' = o ∨ ∀ k, o' = some k → w.heap.size ≤ k) : Ch bx o w w2 :=
  ⟨h'.os.trans h.os, h'.tape.trans h.tape, h'.output.trans h.output, Nat.le_trans h.size h'.size, fun k hk hb hko => by
    have h2 := h.size
    rw [h'.block k (by omega) hb (by
      intro e
      rcases ho with ho | ho
      · exact hko (e.trans ho)
      · have := ho k e.symm; omega)]
    exact h.block k hk hb hko⟩
theorem Ch.set {bx : Nat} {o : Option Nat} {w w' : World} (h : Ch bx o w w') (v : Value) : Ch bx o w (w'.setCell ⟨bx, 0, none⟩ v) :=
  ⟨h.os, h.tape, h.output, by show _ ≤ (w'.heap.modify _ _).size; simp; exact h.size, fun k hk hb ho => by
    rw [Below.heap_setCell _ _ _ _ hb]; exact h.block k hk hb ho⟩
theorem Ch.alloc {bx : Nat} {o : Option Nat} {w w' : World} (h : Ch bx o w w') (ob : Obj) : Ch bx o w (w'.alloc ob) :=
  ⟨h.os, h.tape, h.output, by show _ ≤ (w'.heap.push _).size; simp; have := h.size; omega, fun k hk hb ho => by
    show (w'.heap.push _)[k]? = _
    have := h.size
    rw [Array.getElem?_push, if_neg (by omega)]; exact h.block k hk hb ho⟩
theorem Ch.drew {bx : Nat} {o : Option Nat} {w w' : World} (h : Ch bx o w w') : Ch bx o w w'.drew := ⟨h.os, h.tape, h.output, h.size, h.block⟩
/-- what a row is that was made by a call, behind another call -/
theorem Ch.own {α : Type} {E : Enc α} {T bx B : Nat} {o : Option Nat} {w w' : World} {v : Value} {l : List α} (h : Ch bx o w w') (ho : Own E T w B v l) (h1 : v.ownBlock ≠ some bx) (h2 : v.ownBlock = none ∨ v.ownBlock ≠ o) : Own E T w' B v l := by
  refine ⟨ho.1, ?_⟩
  rcases ho.2 with h0 | ⟨g, cap, cur, e, hb, hg, hr⟩
  · exact .inl h0
  · refine .inr ⟨g, cap, cur, e, hb, ?_, hr⟩
    subst e
    simp only [Value.ownBlock] at h1 h2
    rw [h.block g (Array.getElem?_eq_some_iff.1 hg).1 (fun e => h1 (by rw [e])) (fun e => by
      rcases h2 with h2 | h2
      · simp at h2
      · exact h2 e)]
    exact hg
theorem froz {w : World} {bx T : Nat} {c : Array Value} (h : w.heap[bx]? = some (.cells c T)) (j : Nat) : w.frozen? ⟨bx, j, none⟩ = false := by
  simp [World.frozen?, h]
theorem grown_set (w : World) (bx : Nat) (u : Value) : w.grownBy (w.setCell ⟨bx, 0, none⟩ u) (some bx) :=
  ⟨rfl, rfl, rfl, by show _ ≤ (w.heap.modify _ _).size; simp, fun k hk ho => Below.heap_setCell _ _ _ _ (fun e => ho (by rw [e]))⟩
theorem assertJ (v : Value) (w : World) : Sem.run Try.prog (Instr.typeAssert (.iface 72 v) 20 72 false) w = .ok v w := by kernel_rfl
set_option maxRecDepth 20000 in
set_option maxHeartbeats 1600000 in
theorem qpush_any (bx B : Nat) (v : Value) (x : Jb) (l : List Jb) (w : World) (hbox : w.heap[bx]? = some (oQ v)) (h : OwnJ w B v l) (hl : l.length ≤ 3000) (hB : B ≤ w.heap.size) :
    Calls Try.prog 103 #[.pointer (some ⟨bx, 0, none⟩), .iface 72 (vJ x)] w fun e w' => e = .returned (.tuple #[]) ∧ ∃ g cap, w'.heap[bx]? = some (oQ (vS g (l.length + 1) cap)) ∧ OwnJ w' B (vS g (l.length + 1) cap) (l ++ [x]) ∧ Ch bx v.ownBlock w w' ∧ (v.ownBlock = some g ∨ w.heap.size ≤ g) := by
  obtain ⟨i0, hi, hz0, hz1, hz2⟩ := info_parts infoJ
  have Hi := hid hi
  have Hz0 := hid hz0
  have Hz1 := hid hz1
  have Hz2 := hid hz2
  clear hi hz0 hz1 hz2
  have hc := box_cell hbox 0
  simp at hc
  have HX := hid hbox
  have HO := hid h
  have hne := own_ne h hbox (by decide)
  have mixed := mixd
  have hta := assertJ
  have k1 := EJ.h1 x
  have k2 : l.length + 1 ≤ maxLen := by unfold maxLen; omega
  have k3 : (l.length + 1) * 56 ≤ 140737488355328 := by omega
  have hbw := World.block_lt_of_cell? _ _ hc
  have hbw2 : bx < w.heap.size := hbw
  obtain ⟨x0, x1, x2, x3, x4, x5, x6⟩ := x
  have hbo : (w.alloc (.cells #[.int .i64 x0, .int .i64 x1, .int .i64 x2, .int .i64 x3, .int .i64 x4, .int .i64 x5, .int .i64 x6] 72)).drew.heap[bx]? = some (oQ v) := box_alloc hbox _
  have hown3 : (w.alloc (.cells #[.int .i64 x0, .int .i64 x1, .int .i64 x2, .int .i64 x3, .int .i64 x4, .int .i64 x5, .int .i64 x6] 72)).drew.ownsRow B 72 7 v l.length (EJ.flat l) := World.ownsRow.drew (World.ownsRow.alloc h _)
  have hnews : ∀ j u, (EJ.enc ⟨x0, x1, x2, x3, x4, x5, x6⟩)[j]? = some u → (w.alloc (.cells #[.int .i64 x0, .int .i64 x1, .int .i64 x2, .int .i64 x3, .int .i64 x4, .int .i64 x5, .int .i64 x6] 72)).drew.cell? ((⟨w.heap.size, 0, none⟩ : Addr).add j) = some u := World.news_of_block (heap_alloc_new w _)
  have hsz3 : (w.alloc (.cells #[.int .i64 x0, .int .i64 x1, .int .i64 x2, .int .i64 x3, .int .i64 x4, .int .i64 x5, .int .i64 x6] 72)).drew.heap.size = w.heap.size + 1 := World.size_alloc _ _
  have hB3 : B ≤ (w.alloc (.cells #[.int .i64 x0, .int .i64 x1, .int .i64 x2, .int .i64 x3, .int .i64 x4, .int .i64 x5, .int .i64 x6] 72)).drew.heap.size := by rw [hsz3]; omega
  unfold vJ
  clear hbox h
  go_enter Try.func103, Try.ntmps103
  go_wp2_with fail
  go_region_law
    (first | (refine step_append_lies _ (by rfl) _ _ _ (by rfl) B 72 i0 (.agg #[.int .i64 0, .int .i64 0, .int .i64 0, .int .i64 0, .int .i64 0, .int .i64 0, .int .i64 0]) 7 56 Try.underlying90 Hi.out Hz0.out Hz1.out Hz2.out rfl (by decide) _ l.length (EJ.flat l) (by rfl) hown3 ⟨w.heap.size, 0, none⟩ 1 1 (EJ.enc ⟨x0, x1, x2, x3, x4, x5, x6⟩) (by rfl) (by rfl) hnews k1 (by decide) k2 k3 hB3 (w.heap.size + 1) hsz3 ?_
              intro g cp w4 hown hgrow hat hlt
              have hb4 := box_grown hbo hgrow hne
              have e0 := box_cell hb4 0
              have f0 := froz hb4 0
              simp at e0))
  all_goals go_wp2
  all_goals go_end0
  all_goals
    have ho4 : OwnJ w4 B (vS g (l.length + 1) cp) (l ++ [⟨x0, x1, x2, x3, x4, x5, x6⟩]) := own_snoc hown rfl rfl
    have hgne : bx ≠ g := fun e => own_ne ho4 hb4 (by decide) (by rw [e]; rfl)
    refine ⟨rfl, g, cp, one_setCell hb4, ho4.kept (grown_set w4 bx _) (.inr (by simp [Value.ownBlock]; omega)), ?_, ?_⟩
    · exact (Ch.trans (Ch.drew (Ch.alloc (Ch.refl bx v.ownBlock w) (.cells #[.int .i64 x0, .int .i64 x1, .int .i64 x2, .int .i64 x3, .int .i64 x4, .int .i64 x5, .int .i64 x6] 72))) (Ch.of hgrow) (.inl rfl)).set _
    · rcases hat with hat | hat
      · exact .inl hat
      · exact .inr (by omega)
set_option maxRecDepth 20000 in
set_option maxHeartbeats 1600000 in
theorem qpop_any (bx B g n cap : Nat) (l : List Jb) (w : World) (hbox : w.heap[bx]? = some (oQ (vS g n cap))) (h : OwnJ w B (vS g n cap) l) (hn : n + 1 = l.length ∨ n = l.length) (hn1 : n = l.length) (h0 : 0 < n) (hl : l.length ≤ 4000) :
    Calls Try.prog 102 #[.pointer (some ⟨bx, 0, none⟩)] w fun e w' => e = .returned (.iface 72 (vJ (gt l (n - 1)))) ∧ w'.heap[bx]? = some (oQ (vS g (n - 1) cap)) ∧ OwnJ w' B (vS g (n - 1) cap) (l.take (n - 1)) ∧ Ch bx (some g) w w' := by
  obtain ⟨m, rfl⟩ : ∃ m, n = m + 1 := ⟨n - 1, by omega⟩
  rw [Nat.add_sub_cancel]
  have hcp : m + 1 ≤ cap := by
    obtain ⟨g', cap', e, h1, h2, h3, h4⟩ := h.pos (by omega)
    simp at e; omega
  have hx : ∀ c, c < 7 → w.cell? ⟨g, m * 7 + c, none⟩ = (EJ.enc l[m])[c]? := fun c hc => h.cell m c (by omega) hc
  have hgt : gt l m = l[m] := by unfold gt; rw [getD_at l m (by omega)]
  rw [hgt]
  have hc := box_cell hbox 0
  have hf := froz hbox 0
  simp at hc
  have hgne : bx ≠ g := fun e => own_ne h hbox (by decide) (by rw [e]; rfl)
  have hbw := World.block_lt_of_cell? _ _ hc
  have hbw2 : bx < w.heap.size := hbw
  have HX := hid hbox
  have HO := hid h
  have HL := hid hn1
  generalize l[m] = x at *
  obtain ⟨x0, x1, x2, x3, x4, x5, x6⟩ := x
  have a0 := hx 0 (by omega); have a1 := hx 1 (by omega); have a2 := hx 2 (by omega); have a3 := hx 3 (by omega); have a4 := hx 4 (by omega); have a5 := hx 5 (by omega); have a6 := hx 6 (by omega)
  simp [EJ] at a0 a1 a2 a3 a4 a5 a6
  have hm3 : m ≤ 4000 := by omega
  have i1 : (m : Int) < (m : Int) + 1 := by omega
  have hwm : IntKind.i64.wrap (m : Int) = (m : Int) := by rw [IntKind.wrap_i64]; omega
  have i2 : (m : Int) ≤ (cap : Int) := by omega
  clear hx hbox h hn hn1 hl hgt h0
  unfold vJ
  go_enter Try.func102, Try.ntmps102
  go_wp2
  go_ret
  refine ⟨rfl, ?_, ?_, ?_⟩
  · exact box_alloc (one_setCell HX.out) _
  · exact own_alloc ((HO.out.take (by have := HL.out; omega)).kept (grown_set w bx _) (.inr (by simp [Value.ownBlock]; omega))) _
  · exact ((Ch.refl bx (some g) w).set _).alloc _
end PlayC
end Go.Proofs.Ytgplaoojimpbaaa
