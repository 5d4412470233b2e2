/- Several texts, one behind the other: HpD HpE. -/
import Derived.Test.YtpnahhpkaegeeaaPkO
import Derived.Deep.AppendLies
import Derived.Deep.RegionLaw
/- Contracts: the queue's Push and Pop. -/
set_option linter.unusedVariables false
namespace Go.Proofs.Ytpnahhpkaegeeaa
open Go.RowKit hiding tok
open Go.Shelf Go.Sort
open SpanM SpanC PlayM
namespace PlayC
open RowG
/-- but the box, the row behind it and what is new, all is as it was -/
structure Ch (bx : Nat) (o : Option Nat) (w w' : World) : Prop where
  os : w'.os = w.os
  tape : w'.tape = w.tape
  output : w'.output = w.output
  size : w.heap.size ≤ w'.heap.size
  block : ∀ k, k < w.heap.size → k ≠ bx → some k ≠ o → w'.heap[k]? = w.heap[k]?
theorem Ch.of {bx : Nat} {o : Option Nat} {w w' : World} (h : w.grownBy w' o) : Ch bx o w w' := ⟨h.os, h.tape, h.output, h.size, fun k hk _ ho => h.block k hk ho⟩
theorem Ch.refl (bx : Nat) (o : Option Nat) (w : World) : Ch bx o w w := Ch.of (grown_refl _ _)
theorem Ch.trans {bx : Nat} {o o' : Option Nat} {w w1 w2 : World} (h : Ch bx o w w1) (h' : Ch bx o' w1 w2) (ho : o' = o ∨ ∀ k, o' = some k → w.heap.size ≤ k) : Ch bx o w w2 :=
  ⟨h'.os.trans h.os, h'.tape.trans h.tape, h'.output.trans h.output, Nat.le_trans h.size h'.size, fun k hk hb hko => by
    have h2 := h.size
    rw [h'.block k (by omega) hb (by
      intro e
      rcases ho with ho | ho
      · exact hko (e.trans ho)
      · have := ho k e.symm; omega)]
    exact h.block k hk hb hko⟩
theorem Ch.set {bx : Nat} {o : Option Nat} {w w' : World} (h : Ch bx o w w') (v : Value) : Ch bx o w (w'.setCell ⟨bx, 0, none⟩ v) :=
  ⟨h.os, h.tape, h.output, by show _ ≤ (w'.heap.modify _ _).size; simp; exact h.size, fun k hk hb ho => by
    rw [Below.heap_setCell _ _ _ _ hb]; exact h.block k hk hb ho⟩
theorem Ch.alloc {bx : Nat} {o : Option Nat} {w w' : World} (h : Ch bx o w w') (ob : Obj) : Ch bx o w (w'.alloc ob) :=
  ⟨h.os, h.tape, h.output, by show _ ≤ (w'.heap.push _).size; simp; have := h.size; omega, fun k hk hb ho => by
    show (w'.heap.push _)[k]? = _
    have := h.size
    rw [Array.getElem?_push, if_neg (by omega)]; exact h.block k hk hb ho⟩
theorem Ch.drew {bx : Nat} {o : Option Nat} {w w' : World} (h : Ch bx o w w') : Ch bx o w w'.drew := ⟨h.os, h.tape, h.output, h.size, h.block⟩
/-- what a row is that was made by a call, behind another call -/
theorem Ch.own {α : Type} {E : Enc α} {T bx B : Nat} {o : Option Nat} {w w' : World} {v : Value} {l : List α} (h : Ch bx o w w') (ho : Own E T w B v l) (h1 : v.ownBlock ≠ some bx) (h2 : v.ownBlock = none ∨ v.ownBlock ≠ o) : Own E T w' B v l := by
  refine ⟨ho.1, ?_⟩
  rcases ho.2 with h0 | ⟨g, cap, cur, e, hb, hg, hr⟩
  · exact .inl h0
  · refine .inr ⟨g, cap, cur, e, hb, ?_, hr⟩
    subst e
    simp only [Value.ownBlock] at h1 h2
    rw [h.block g (Array.getElem?_eq_some_iff.1 hg).1 (fun e => h1 (by rw [e])) (fun e => by
      rcases h2 with h2 | h2
      · simp at h2
      · exact h2 e)]
    exact hg
theorem froz {w : World} {bx T : Nat} {c : Array Value} (h : w.heap[bx]? = some (.cells c T)) (j : Nat) : w.frozen? ⟨bx, j, none⟩ = false := by
  simp [World.frozen?, h]
theorem grown_set (w : World) (bx : Nat) (u : Value) : w.grownBy (w.setCell ⟨bx, 0, none⟩ u) (some bx) :=
  ⟨rfl, rfl, rfl, by show _ ≤ (w.heap.modify _ _).size; simp, fun k hk ho => Below.heap_setCell _ _ _ _ (fun e => ho (by rw [e]))⟩
theorem assertJ (v : Value) (w : World) : Sem.run Try.prog (Instr.typeAssert (.iface 83 v) 20 83 false) w = .ok v w := by kernel_rfl
set_option maxRecDepth 20000 in
set_option maxHeartbeats 1600000 in
theorem qpush_any (bx B : Nat) (v : Value) (x : Jb) (l : List Jb) (w : World) (hbox : w.heap[bx]? = some (oQ v)) (h : OwnJ w B v l) (hl : l.length ≤ 3000) (hB : B ≤ w.heap.size) :
    Calls Try.prog 133 #[.pointer (some ⟨bx, 0, none⟩), .iface 83 (vJ x)] w fun e w' => e = .returned (.tuple #[]) ∧ ∃ g cap, w'.heap[bx]? = some (oQ (vS g (l.length + 1) cap)) ∧ OwnJ w' B (vS g (l.length + 1) cap) (l ++ [x]) ∧ Ch bx v.ownBlock w w' ∧ (v.ownBlock = some g ∨ w.heap.size ≤ g) := by
  obtain ⟨i0, hi, hz0, hz1, hz2⟩ := info_parts infoJ
  have Hi := hid hi
  have Hz0 := hid hz0
  have Hz1 := hid hz1
  have Hz2 := hid hz2
  clear hi hz0 hz1 hz2
  have hc := box_cell hbox 0
  simp at hc
  have HX := hid hbox
  have HO := hid h
  have hne := own_ne h hbox (by decide)
  have mixed := mixd
  have hta := assertJ
  have k1 := EJ.h1 x
  have k2 : l.length + 1 ≤ maxLen := by unfold maxLen; omega
  have k3 : (l.length + 1) * 56 ≤ 140737488355328 := by omega
  have hbw := World.block_lt_of_cell? _ _ hc
  have hbw2 : bx < w.heap.size := hbw
  obtain ⟨x0, x1, x2, x3, x4, x5, x6⟩ := x
  have hbo : (w.alloc (.cells #[.int .i64 x0, .int .i64 x1, .int .i64 x2, .int .i64 x3, .int .i64 x4, .int .i64 x5, .int .i64 x6] 83)).drew.heap[bx]? = some (oQ v) := box_alloc hbox _
  have hown3 : (w.alloc (.cells #[.int .i64 x0, .int .i64 x1, .int .i64 x2, .int .i64 x3, .int .i64 x4, .int .i64 x5, .int .i64 x6] 83)).drew.ownsRow B 83 7 v l.length (EJ.flat l) := World.ownsRow.drew (World.ownsRow.alloc h _)
  have hnews : ∀ j u, (EJ.enc ⟨x0, x1, x2, x3, x4, x5, x6⟩)[j]? = some u → (w.alloc (.cells #[.int .i64 x0, .int .i64 x1, .int .i64 x2, .int .i64 x3, .int .i64 x4, .int .i64 x5, .int .i64 x6] 83)).drew.cell? ((⟨w.heap.size, 0, none⟩ : Addr).add j) = some u := World.news_of_block (heap_alloc_new w _)
  have hsz3 : (w.alloc (.cells #[.int .i64 x0, .int .i64 x1, .int .i64 x2, .int .i64 x3, .int .i64 x4, .int .i64 x5, .int .i64 x6] 83)).drew.heap.size = w.heap.size + 1 := World.size_alloc _ _
  have hB3 : B ≤ (w.alloc (.cells #[.int .i64 x0, .int .i64 x1, .int .i64 x2, .int .i64 x3, .int .i64 x4, .int .i64 x5, .int .i64 x6] 83)).drew.heap.size := by rw [hsz3]; omega
  unfold vJ
  clear hbox h
  go_enter Try.func133, Try.ntmps133
  go_wp2_with fail
  go_region_law
    (first | (refine step_append_lies _ (by rfl) _ _ _ (by rfl) B 83 i0 (.agg #[.int .i64 0, .int .i64 0, .int .i64 0, .int .i64 0, .int .i64 0, .int .i64 0, .int .i64 0]) 7 56 Try.underlying106 Hi.out Hz0.out Hz1.out Hz2.out rfl (by decide) _ l.length (EJ.flat l) (by rfl) hown3 ⟨w.heap.size, 0, none⟩ 1 1 (EJ.enc ⟨x0, x1, x2, x3, x4, x5, x6⟩) (by rfl) (by rfl) hnews k1 (by decide) k2 k3 hB3 (w.heap.size + 1) hsz3 ?_
              intro g cp w4 hown hgrow hat hlt
              have hb4 := box_grown hbo hgrow hne
              have e0 := box_cell hb4 0
              have f0 := froz hb4 0
              simp at e0))
  all_goals go_wp2
  all_goals go_end0
  all_goals
    have ho4 : OwnJ w4 B (vS g (l.length + 1) cp) (l ++ [⟨x0, x1, x2, x3, x4, x5, x6⟩]) := own_snoc hown rfl rfl
    have hgne : bx ≠ g := fun e => own_ne ho4 hb4 (by decide) (by rw [e]; rfl)
    refine ⟨rfl, g, cp, one_setCell hb4, ho4.kept (grown_set w4 bx _) (.inr (by simp [Value.ownBlock]; omega)), ?_, ?_⟩
    · exact (Ch.trans (Ch.drew (Ch.alloc (Ch.refl bx v.ownBlock w) (.cells #[.int .i64 x0, .int .i64 x1, .int .i64 x2, .int .i64 x3, .int .i64 x4, .int .i64 x5, .int .i64 x6] 83))) (Ch.of hgrow) (.inl rfl)).set _
    · rcases hat with hat | hat
      · exact .inl hat
      · exact .inr (by omega)
set_option maxRecDepth 20000 in
set_option maxHeartbeats 1600000 in
theorem qpop_any (bx B g n cap : Nat) (l : List Jb) (w : World) (hbox : w.heap[bx]? = some (oQ (vS g n cap))) (h : OwnJ w B (vS g n cap) l) (hn : n + 1 = l.length ∨ n = l.length) (hn1 : n = l.length) (h0 : 0 < n) (hl : l.length ≤ 4000) :
    Calls Try.prog 132 #[.pointer (some ⟨bx, 0, none⟩)] w fun e w' => e = .returned (.iface 83 (vJ (gt l (n - 1)))) ∧ w'.heap[bx]? = some (oQ (vS g (n - 1) cap)) ∧ OwnJ w' B (vS g (n - 1) cap) (l.take (n - 1)) ∧ Ch bx (some g) w w' := by
  obtain ⟨m, rfl⟩ : ∃ m, n = m + 1 := ⟨n - 1, by omega⟩
  rw [Nat.add_sub_cancel]
  have hcp : m + 1 ≤ cap := by
    obtain ⟨g', cap', e, h1, h2, h3, h4⟩ := h.pos (by omega)
    simp at e; omega
  have hx : ∀ c, c < 7 → w.cell? ⟨g, m * 7 + c, none⟩ = (EJ.enc l[m])[c]? := fun c hc => h.cell m c (by omega) hc
  have hgt : gt l m = l[m] := by unfold gt; rw [getD_at l m (by omega)]
  rw [hgt]
  have hc := box_cell hbox 0
  have hf := froz hbox 0
  simp at hc
  have hgne : bx ≠ g := fun e => own_ne h hbox (by decide) (by rw [e]; rfl)
  have hbw := World.block_lt_of_cell? _ _ hc
  have hbw2 : bx < w.heap.size := hbw
  have HX := hid hbox
  have HO := hid h
  have HL := hid hn1
  generalize l[m] = x at *
  obtain ⟨x0, x1, x2, x3, x4, x5, x6⟩ := x
  have a0 := hx 0 (by omega); have a1 := hx 1 (by omega); have a2 := hx 2 (by omega); have a3 := hx 3 (by omega); have a4 := hx 4 (by omega); have a5 := hx 5 (by omega); have a6 := hx 6 (by omega)
  simp [EJ] at a0 a1 a2 a3 a4 a5 a6
  have hm3 : m ≤ 4000 := by omega
  have i1 : (m : Int) < (m : Int) + 1 := by omega
  have hwm : IntKind.i64.wrap (m : Int) = (m : Int) := by rw [IntKind.wrap_i64]; omega
  have i2 : (m : Int) ≤ (cap : Int) := by omega
  clear hx hbox h hn hn1 hl hgt h0
  unfold vJ
  go_enter Try.func132, Try.ntmps132
  go_wp2
  go_ret
  refine ⟨rfl, ?_, ?_, ?_⟩
  · exact box_alloc (one_setCell HX.out) _
  · exact own_alloc ((HO.out.take (by have := HL.out; omega)).kept (grown_set w bx _) (.inr (by simp [Value.ownBlock]; omega))) _
  · exact ((Ch.refl bx (some g) w).set _).alloc _
end PlayC
end Go.Proofs.Ytpnahhpkaegeeaa

/- Contracts: container/heap's Push and Pop over the queue. -/
set_option linter.unusedVariables false
namespace Go.Proofs.Ytpnahhpkaegeeaa
open Go.RowKit hiding tok
open Go.Shelf Go.Sort
open SpanM SpanC PlayM
namespace PlayC
open RowG
set_option maxRecDepth 20000 in
set_option maxHeartbeats 1600000 in
theorem hpush_any (bx B : Nat) (v : Value) (x : Jb) (l : List Jb) (w : World) (hbox : w.heap[bx]? = some (oQ v)) (h : OwnJ w B v l) (hh : Heap l l.length) (hl : l.length ≤ 3000) (hB : B ≤ w.heap.size) :
    Calls Try.prog 73 #[vQ bx, .iface 83 (vJ x)] w fun e w' => e = .returned (.tuple #[]) ∧ ∃ g cap l', w'.heap[bx]? = some (oQ (vS g (l.length + 1) cap)) ∧ OwnJ w' B (vS g (l.length + 1) cap) l' ∧ l'.Perm (x :: l) ∧ Heap l' (l.length + 1) ∧ Ch bx v.ownBlock w w' ∧ (v.ownBlock = some g ∨ w.heap.size ≤ g) := by
  have hp := hid (qpush_any bx B v x l w hbox h hl hB)
  have hm1 := meth_push bx w
  have HH := hid hh
  have HN := hid (show l.length = l.length from rfl)
  obtain ⟨n, hn⟩ : ∃ n, n = l.length := ⟨_, rfl⟩
  have hn2 : n ≤ 3000 := by omega
  rw [← hn] at hp ⊢
  have HLN := hid hn
  clear hbox h hh hl hB hn
  generalize vJ x = vx at *
  go_enter Try.func73, Try.ntmps73
  go_wp2_with (first | (go_at_call 133; refine hp.out.mono ?_; rintro e w1 ⟨rfl, g, cap, hb1, ho1, hc1, hg1⟩; have HB1 := hid hb1; have HO1 := hid ho1; have HC1 := hid hc1; have HG1 := hid hg1; have hx := box_cell hb1 0; simp at hx; have hm2 := meth_len bx (vS g (n + 1) cap) w1 hx; have hup := hid (up_any bx g (n + 1) cap B n (l ++ [x]) w1 hb1 ho1 (by have := HLN.out; simp; omega) (by omega) (by have := HLN.out; simp; omega) (UpI.start (by have := HLN.out; rw [this]; exact HH.out) x HLN.out)); have hwn : IntKind.i64.wrap (n : Int) = (n : Int) := (by rw [IntKind.wrap_i64]; omega); clear hb1 ho1 hc1 hg1) | (go_at_call 128; refine (qlen_any _ _ _ _).mono ?_; rintro e w2 ⟨rfl, hw⟩; replace hw := hw.symm; subst hw) | (go_at_call 90; refine hup.out.mono ?_; rintro e w3 ⟨rfl, l', ho3, hg3, hp3, hh3⟩; have HO3 := hid ho3; have HG3 := hid hg3; have HP3 := hid hp3; have HH3 := hid hh3; clear ho3 hg3 hp3 hh3))
  go_end0
  refine ⟨rfl, g, cap, l', box_of_own HB1.out HO1.out HG3.out, HO3.out, HP3.out.trans (List.perm_append_singleton x l), HH3.out, HC1.out.trans (Ch.of HG3.out) ?_, HG1.out⟩
  rcases HG1.out with e | e
  · exact .inl e.symm
  · exact .inr fun k hk => by simp at hk; omega
set_option maxRecDepth 20000 in
set_option maxHeartbeats 1600000 in
theorem hpop_any (bx B g n cap : Nat) (l : List Jb) (w : World) (hbox : w.heap[bx]? = some (oQ (vS g n cap))) (h : OwnJ w B (vS g n cap) l) (hn : n = l.length) (h0 : 0 < n) (hh : Heap l n) (hl : l.length ≤ 4000) :
    Calls Try.prog 74 #[vQ bx] w fun e w' => e = .returned (.iface 83 (vJ (gt l 0))) ∧ ∃ l', w'.heap[bx]? = some (oQ (vS g (n - 1) cap)) ∧ OwnJ w' B (vS g (n - 1) cap) l' ∧ (gt l 0 :: l').Perm l ∧ Heap l' (n - 1) ∧ Ch bx (some g) w w' := by
  obtain ⟨m, rfl⟩ : ∃ m, n = m + 1 := ⟨n - 1, by omega⟩
  rw [Nat.add_sub_cancel]
  have hx := box_cell hbox 0
  simp at hx
  have hm1 := meth_len bx (vS g (m + 1) cap) w hx
  have hm2 := meth_swap bx (vS g (m + 1) cap) w hx
  have hS := hid (Swap_any g (m + 1) cap B 0 m l w h hn (by omega) (by omega) hl)
  have hwm : IntKind.i64.wrap (m : Int) = (m : Int) := by rw [IntKind.wrap_i64]; omega
  have hm4 : m + 1 ≤ 4000 := by omega
  have HX := hid hbox
  have HO := hid h
  have HN := hid hn
  have HH := hid hh
  have HPM := hid (sw_perm l 0 m (by omega) (by omega))
  have hG0 : gt (sw l 0 m) m = gt l 0 := by
    rw [gt_sw l 0 m m (by omega) (by omega)]
    by_cases e : m = 0
    · rw [if_pos e, e]
    · rw [if_neg e, if_pos rfl]
  have HG0 := hid hG0
  clear hG0
  clear hbox h hn hh hl h0
  generalize hv0 : vJ (gt l 0) = v0
  have HV0 := hid hv0
  clear hv0
  have hz : ((0 : Nat) : Int) = 0 := rfl
  rw [hz] at hS
  go_enter Try.func74, Try.ntmps74
  go_wp2_with (first | (go_at_call 128; refine (qlen_any _ _ _ _).mono ?_; rintro e w2 ⟨rfl, hw⟩; replace hw := hw.symm; subst hw) | (go_at_call 130; refine hS.out.mono ?_; rintro e w1 ⟨rfl, ho1, hg1⟩; have HB1 := hid (box_of_own HX.out HO.out hg1); have HO1 := hid ho1; have HG1 := hid hg1; have hdn := hid (down_any bx g (m + 1) cap B m (sw l 0 m) w1 HB1.out HO1.out (by rw [sw_len]; exact HN.out) (by omega) (by rw [sw_len]; have := HN.out; omega) (DnI.start HH.out HN.out)); clear ho1 hg1) | (go_at_call 91; refine hdn.out.mono ?_; rintro e w2 ⟨⟨b, rfl⟩, l2, ho2, hg2, hp2, hk2, hh2⟩; have HO2 := hid ho2; have HG2 := hid hg2; have HP2 := hid hp2; have HK2 := hid hk2; have HH2 := hid hh2; have HB2 := hid (box_of_own HB1.out HO1.out hg2); have hm3 := meth_pop bx w2; have HL2 := hid (show m + 1 = l2.length by rw [hp2.length_eq, sw_len]; exact HN.out); have hpp := hid (qpop_any bx B g (m + 1) cap l2 w2 HB2.out HO2.out (.inr HL2.out) HL2.out (by omega) (by have := HL2.out; omega)); clear ho2 hg2 hp2 hk2 hh2) | (go_at_call 132; refine hpp.out.mono ?_; rintro e w3 ⟨rfl, hb3, ho3, hc3⟩; have HB3 := hid hb3; have HO3 := hid ho3; have HC3 := hid hc3; clear hb3 ho3 hc3))
  go_ret
  rw [Nat.add_sub_cancel] at HB3 HO3
  have e1 : gt l2 m = gt l 0 := by rw [HK2.out m (Nat.le_refl _), HG0.out]
  refine ⟨?_, l2.take m, HB3.out, HO3.out, ?_, HH2.out.take, ?_⟩
  · rw [← HV0.out, ← e1]; rfl
  · rw [← e1]
    exact ((last_perm HL2.out).trans HP2.out).trans HPM.out
  · exact ((Ch.of HG1.out).trans (Ch.of HG2.out) (.inl rfl)).trans HC3.out (.inl rfl)
end PlayC
end Go.Proofs.Ytpnahhpkaegeeaa
