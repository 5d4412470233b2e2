/- Contracts: container/heap's Push and Pop over the queue. -/
import Derived.Test.YtgplaoojimpbaaaHpD
set_option linter.unusedVariables false
namespace Go.Proofs.Ytgplaoojimpbaaa
open Go.RowKit hiding tok
open Go.Shelf Go.Sort
open SpanM SpanC PlayM
namespace PlayC
open RowG
set_option maxRecDepth 20000 in
set_option maxHeartbeats 1600000 in
theorem hpush_any (bx B : Nat) (v : Value) (x : Jb) (l : List Jb) (w : World) (hbox : w.heap[bx]? = some (oQ v)) (h : OwnJ w B v l) (hh : Heap l l.length) (hl : l.length ≤ 3000) (hB : B ≤ w.heap.size) :
    Calls Try.prog 56 #[vQ bx, .iface 72 (vJ x)] w fun e w' => e = .returned (.tuple #[]) ∧ ∃ g cap l', w'.heap[bx]? = some (oQ (vS g (l.length + 1) cap)) ∧ OwnJ w' B (vS g (l.length + 1) cap) l' ∧ l'.Perm (x :: l) ∧ Heap l' (l.length + 1) ∧ Ch bx v.ownBlock w w' ∧ (v.ownBlock = some g ∨ w.heap.size ≤ g) := by
  have hp := hid (qpush_any bx B v x l w hbox h hl hB)
  have hm1 := meth_push bx w
  have HH := hid hh
  have HN := hid (show l.length = l.length from rfl)
  obtain ⟨n, hn⟩ : ∃ n, n = l.length := ⟨_, rfl⟩
  have hn2 : n ≤ 3000 := by omega
  rw [← hn] at hp ⊢
  have HLN := hid hn
  clear hbox h hh hl hB hn
  generalize vJ x = vx at *
  go_enter Try.func56, Try.ntmps56
  go_wp2_with (first | (go_at_call 103; refine hp.out.mono ?_; rintro e w1 ⟨rfl, g, cap, hb1, ho1, hc1, hg1⟩; have HB1 := hid hb1; have HO1 := hid ho1; have HC1 := hid hc1; have HG1 := hid hg1; have hx := box_cell hb1 0; simp at hx; have hm2 := meth_len bx (vS g (n + 1) cap) w1 hx; have hup := hid (up_any bx g (n + 1) cap B n (l ++ [x]) w1 hb1 ho1 (by have := HLN.out; simp; omega) (by omega) (by have := HLN.out; simp; omega) (UpI.start (by have := HLN.out; rw [this]; exact HH.out) x HLN.out)); have hwn : IntKind.i64.wrap (n : Int) = (n : Int) := (by rw [IntKind.wrap_i64]; omega); clear hb1 ho1 hc1 hg1) | (go_at_call 98; refine (qlen_any _ _ _ _).mono ?_; rintro e w2 ⟨rfl, hw⟩; replace hw := hw.symm; subst hw) | (go_at_call 68; refine hup.out.mono ?_; rintro e w3 ⟨rfl, l', ho3, hg3, hp3, hh3⟩; have HO3 := hid ho3; have HG3 := hid hg3; have HP3 := hid hp3; have HH3 := hid hh3; clear ho3 hg3 hp3 hh3))
  go_end0
  refine ⟨rfl, g, cap, l', box_of_own HB1.out HO1.out HG3.out, HO3.out, HP3.out.trans (List.perm_append_singleton x l), HH3.out, HC1.out.trans (Ch.of HG3.out) ?_, HG1.out⟩
  rcases HG1.out with e | e
  · exact .inl e.symm
  · exact .inr fun k hk => by simp at hk; omega
set_option maxRecDepth 20000 in
set_option maxHeartbeats 1600000 in
theorem hpop_any (bx B g n cap : Nat) (l : List Jb) (w : World) (hbox : w.heap[bx]? = some (oQ (vS g n cap))) (h : OwnJ w B (vS g n cap) l) (hn : n = l.length) (h0 : 0 < n) (hh : Heap l n) (hl : l.length ≤ 4000) :
    Calls Try.prog 57 #[vQ bx] w fun e w' => e = .returned (.iface 72 (vJ (gt l 0))) ∧ ∃ l', w'.heap[bx]? = some (oQ (vS g (n - 1) cap)) ∧ OwnJ w' B (vS g (n - 1) cap) l' ∧ (gt l 0 :: l').Perm l ∧ Heap l' (n - 1) ∧ Ch bx (some g) w w' := by
  obtain ⟨m, rfl⟩ : ∃ m, n = m + 1 := ⟨n - 1, by omega⟩
  rw [Nat.add_sub_cancel]
  have hx := box_cell hbox 0
  simp at hx
  have hm1 := meth_len bx (vS g (m + 1) cap) w hx
  have hm2 := meth_swap bx (vS g (m + 1) cap) w hx
  have hS := hid (Swap_any g (m + 1) cap B 0 m l w h hn (by omega) (by omega) hl)
  have hwm : IntKind.i64.wrap (m : Int) = (m : Int) := by rw [IntKind.wrap_i64]; omega
  have hm4 : m + 1 ≤ 4000 := by omega
  have HX := hid hbox
  have HO := hid h
  have HN := hid hn
  have HH := hid hh
  have HPM := hid (sw_perm l 0 m (by omega) (by omega))
  have hG0 : gt (sw l 0 m) m = gt l 0 := by
    rw [gt_sw l 0 m m (by omega) (by omega)]
    by_cases e : m = 0
    · rw [if_pos e, e]
    · rw [if_neg e, if_pos rfl]
  have HG0 := hid hG0
  clear hG0
  clear hbox h hn hh hl h0
  generalize hv0 : vJ (gt l 0) = v0
  have HV0 := hid hv0
  clear hv0
  have hz : ((0 : Nat) : Int) = 0 := rfl
  rw [hz] at hS
  go_enter Try.func57, Try.ntmps57
  go_wp2_with (first | (go_at_call 98; refine (qlen_any _ _ _ _).mono ?_; rintro e w2 ⟨rfl, hw⟩; replace hw := hw.symm; subst hw) | (go_at_call 100; refine hS.out.mono ?_; rintro e w1 ⟨rfl, ho1, hg1⟩; have HB1 := hid (box_of_own HX.out HO.out hg1); have HO1 := hid ho1; have HG1 := hid hg1; have hdn := hid (down_any bx g (m + 1) cap B m (sw l 0 m) w1 HB1.out HO1.out (by rw [sw_len]; exact HN.out) (by omega) (by rw [sw_len]; have := HN.out; omega) (DnI.start HH.out HN.out)); clear ho1 hg1) | (go_at_call 69; refine hdn.out.mono ?_; rintro e w2 ⟨⟨b, rfl⟩, l2, ho2, hg2, hp2, hk2, hh2⟩; have HO2 := hid ho2; have HG2 := hid hg2; have HP2 := hid hp2; have HK2 := hid hk2; have HH2 := hid hh2; have HB2 := hid (box_of_own HB1.out HO1.out hg2); have hm3 := meth_pop bx w2; have HL2 := hid (show m + 1 = l2.length by rw [hp2.length_eq, sw_len]; exact HN.out); have hpp := hid (qpop_any bx B g (m + 1) cap l2 w2 HB2.out HO2.out (.inr HL2.out) HL2.out (by omega) (by have := HL2.out; omega)); clear ho2 hg2 hp2 hk2 hh2) | (go_at_call 102; refine hpp.out.mono ?_; rintro e w3 ⟨rfl, hb3, ho3, hc3⟩; have HB3 := hid hb3; have HO3 := hid ho3; have HC3 := hid hc3; clear hb3 ho3 hc3))
  go_ret
  rw [Nat.add_sub_cancel] at HB3 HO3
  have e1 : gt l2 m = gt l 0 := by rw [HK2.out m (Nat.le_refl _), HG0.out]
  refine ⟨?_, l2.take m, HB3.out, HO3.out, ?_, HH2.out.take, ?_⟩
  · rw [← HV0.out, ← e1]; rfl
  · rw [← e1]
    exact ((last_perm HL2.out).trans HP2.out).trans HPM.out
  · exact ((Ch.of HG1.out).trans (Ch.of HG2.out) (.inl rfl)).trans HC3.out (.inl rfl)
end PlayC
end Go.Proofs.Ytgplaoojimpbaaa
