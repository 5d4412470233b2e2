/- Package vm: step whole, Run. -/
import Derived.Test.YtceflfdpbgnfjaaVmK
import Derived.Test.YtceflfdpbgnfjaaVmI
import Derived.Test.YtceflfdpbgnfjaaVmD
import Derived.Deep.MidRow
import Derived.Deep.CutRange
set_option linter.unusedVariables false
namespace Go.Proofs.Ytceflfdpbgnfjaa
open Go.RowKit
open Go.Shelf Go.Sort
open SpanM hiding good
open SpanC IntsC
open RowsO hiding Em
namespace VmC
open VmP VmM
open NumC (Row)
variable {w0 W : World} {x : Inp} {bx g cap : Nat} {s : St} {took : Nat} {ov : Value} {out : List Em}
theorem outC : OutC := fun _ _ _ _ _ _ _ _ _ _ h a b ha hl => do_out h a b ha hl
theorem step_any (hx : x.At w0) (hp : VmP.chk x.p = 0) (hs : Ok x.p s) (h : Mc w0 W x bx g cap s took ov out) (hg : goes x.p s (decide (took < x.i.length)) = true) (hl : out.length ≤ 5000) :
    Calls Try.prog 27 #[pM bx] W fun e W' => e = .returned (.tuple #[]) ∧ ∃ ov', Mc w0 W' x bx g cap (stp x.p s (x.i.getD took 0)).s (took + (stp x.p s (x.i.getD took 0)).took) ov' (out ++ (stp x.p s (x.i.getD took 0)).out) := by
  simp only [goes, Bool.and_eq_true, Bool.not_eq_true', Bool.or_eq_false_iff, Bool.or_eq_true, decide_eq_true_eq] at hg
  obtain ⟨⟨hh, hf⟩, hg⟩ := hg
  have hnh : ¬ (s.halts = true ∨ s.fault = true) := by simp [hh, hf]
  by_cases hpc : s.pc = x.p.length
  · have ha : act x.p s = .go { s with fault := true } [] := by unfold act; rw [if_neg hnh, if_pos hpc]
    have he : stp x.p s (x.i.getD took 0) = ⟨{ s with fault := true }, [], 0, 1⟩ := by unfold stp; rw [ha]
    rw [he]
    exact (step_behind h hpc).mono fun e W' q => ⟨q.1, ov, by rw [List.append_nil]; exact q.2⟩
  · have hgd := hs.good hp hpc
    by_cases h11 : (x.p.getD s.pc.toNat zIn).1 = 11
    · have ha : act x.p s = .go { s with halts := true } [] := by unfold act; rw [if_neg hnh, if_neg hpc, if_pos h11]
      have he : stp x.p s (x.i.getD took 0) = ⟨{ s with halts := true }, [], 0, 1⟩ := by unfold stp; rw [ha]
      rw [he]
      exact (step_halt hx hs h hpc h11).mono fun e W' q => ⟨q.1, ov, by rw [List.append_nil]; exact q.2⟩
    · cases hj : jmp s (x.p.getD s.pc.toNat zIn)
      · have ht : (x.p.getD s.pc.toNat zIn).1 = 9 → took < x.i.length := fun h9 => by
          rcases hg with (q | q) | q
          · exact absurd q hpc
          · exact absurd h9 q
          · exact q
        refine (step_do outC hx hs h hpc h11 hgd hj ht hl).mono fun e W' q => ⟨q.1, ?_⟩
        obtain ⟨s', t, o, ov', hr, hm⟩ := q.2
        obtain ⟨r1, r2, r3, r4, r5, r6⟩ := hr
        have es : ∀ rg, s'.regs = rg → ({ s' with pc := s.pc + 1 } : St) = ⟨s.pc + 1, rg, s.halts, s.fault⟩ := fun rg hrg => by
          cases s'; simp only at r2 r3 hrg ⊢; rw [r2, r3, hrg]
        by_cases h9 : (x.p.getD s.pc.toNat zIn).1 = 9
        · have h10 : ¬ (x.p.getD s.pc.toNat zIn).1 = 10 := by omega
          rw [if_pos h9] at r4 r5
          rw [if_neg h10] at r6
          have ha : act x.p s = .take fun n => ⟨s.pc + 1, s.regs.set (x.p.getD s.pc.toNat zIn).2.1.toNat n, s.halts, s.fault⟩ := by
            unfold act; rw [if_neg hnh, if_neg hpc, if_neg h11, if_neg (by rw [hj]; simp), if_pos h9]
          have he : stp x.p s (x.i.getD took 0) = ⟨⟨s.pc + 1, s.regs.set (x.p.getD s.pc.toNat zIn).2.1.toNat (x.i.getD took 0), s.halts, s.fault⟩, [], 1, 1⟩ := by unfold stp; rw [ha]
          rw [he]
          rw [es _ r4, r5, r6] at hm
          exact ⟨ov', hm⟩
        · rw [if_neg h9] at r4 r5
          by_cases h10 : (x.p.getD s.pc.toNat zIn).1 = 10
          · rw [if_pos h10] at r6
            have hp0 : put s (x.p.getD s.pc.toNat zIn) = s.regs := by unfold put; rw [if_neg (by omega)]
            have ha : act x.p s = .go ⟨s.pc + 1, s.regs, s.halts, s.fault⟩ [((x.p.getD s.pc.toNat zIn).2.2, reg s (x.p.getD s.pc.toNat zIn).2.1)] := by
              unfold act; rw [if_neg hnh, if_neg hpc, if_neg h11, if_neg (by rw [hj]; simp), if_neg h9, if_pos h10]
            have he : stp x.p s (x.i.getD took 0) = ⟨⟨s.pc + 1, s.regs, s.halts, s.fault⟩, [((x.p.getD s.pc.toNat zIn).2.2, reg s (x.p.getD s.pc.toNat zIn).2.1)], 0, 1⟩ := by unfold stp; rw [ha]
            rw [he]
            rw [es _ (r4.trans hp0), r5, r6] at hm
            exact ⟨ov', hm⟩
          · rw [if_neg h10] at r6
            have ha : act x.p s = .go ⟨s.pc + 1, put s (x.p.getD s.pc.toNat zIn), s.halts, s.fault⟩ [] := by
              unfold act; rw [if_neg hnh, if_neg hpc, if_neg h11, if_neg (by rw [hj]; simp), if_neg h9, if_neg h10]
            have he : stp x.p s (x.i.getD took 0) = ⟨⟨s.pc + 1, put s (x.p.getD s.pc.toNat zIn), s.halts, s.fault⟩, [], 0, 1⟩ := by unfold stp; rw [ha]
            rw [he]
            rw [es _ r4, r5, r6] at hm
            exact ⟨ov', hm⟩
      · have ha : act x.p s = .go { s with pc := (x.p.getD s.pc.toNat zIn).2.2 } [] := by unfold act; rw [if_neg hnh, if_neg hpc, if_neg h11, if_pos hj]
        have he : stp x.p s (x.i.getD took 0) = ⟨{ s with pc := (x.p.getD s.pc.toNat zIn).2.2 }, [], 0, 1⟩ := by unfold stp; rw [ha]
        rw [he]
        exact (step_jump hx hs h hpc h11 hgd hj).mono fun e W' q => ⟨q.1, ov, by rw [List.append_nil]; exact q.2⟩
theorem infoVm : (Try.prog.info? 25).map (·.size) = some 4 := by kernel_rfl
theorem load_vm {W : World} {b : Nat} {x0 x1 x2 x3 : Value} (h : W.heap[b]? = some (.cells #[x0, x1, x2, x3] 25)) :
    (loadVar 25 ⟨b, 0, none⟩).run Try.prog W = .ok (.agg #[x0, x1, x2, x3]) W :=
  run_loadVar_mid W _ 0 _ [x0, x1, x2, x3] _ (fun j v hv => by rw [Nat.zero_add, box_cell h]; simpa using hv) Try.underlying25 (by rfl) infoVm
theorem as_addr (W : World) (p : Addr) : Sem.run Try.prog (asAddr (.pointer (some p))) W = .ok p W := rfl
theorem B2.box1 {w W : World} {a b : Array Value} {ta tb : Nat} (h : B2 w W a b ta tb) : W.heap[w.heap.size + 1]? = some (.cells b tb) := by
  have := box_new (w.alloc (.cells a ta)) b tb
  rw [World.size_alloc] at this
  rw [h.b.block _ (by omega)]
  exact this
abbrev st4 (w : World) (b : Nat) (x0 x1 x2 x3 : Value) : World := (((w.setCell ⟨b, 0, none⟩ x0).setCell ⟨b, 1, none⟩ x1).setCell ⟨b, 2, none⟩ x2).setCell ⟨b, 3, none⟩ x3
theorem st4_heap {w : World} {b T : Nat} {z0 z1 z2 z3 x0 x1 x2 x3 : Value} (h : w.heap[b]? = some (.cells #[z0, z1, z2, z3] T)) : (st4 w b x0 x1 x2 x3).heap[b]? = some (.cells #[x0, x1, x2, x3] T) :=
  heap_setCell_same _ _ _ _ _ _ (heap_setCell_same _ _ _ _ _ _ (heap_setCell_same _ _ _ _ _ _ (heap_setCell_same _ _ _ _ _ _ h)))
theorem st4_other {w : World} {b : Nat} (x0 x1 x2 x3 : Value) {k : Nat} (h : k ≠ b) : (st4 w b x0 x1 x2 x3).heap[k]? = w.heap[k]? := by
  unfold st4
  rw [heap_setCell_other _ _ _ _ h, heap_setCell_other _ _ _ _ h, heap_setCell_other _ _ _ _ h, heap_setCell_other _ _ _ _ h]
theorem bel_set {w W : World} {B : Nat} (h : Below B w W) (b j : Nat) (x : Value) (hb : B ≤ b) : Below B w (W.setCell ⟨b, j, none⟩ x) := h.setCell (p := ⟨b, j, none⟩) hb x
theorem st4_below {w W : World} {B b : Nat} {x0 x1 x2 x3 : Value} (h : Below B w W) (hb : B ≤ b) : Below B w (st4 W b x0 x1 x2 x3) :=
  bel_set (bel_set (bel_set (bel_set h _ _ _ hb) _ _ _ hb) _ _ _ hb) _ _ _ hb
theorem st4_own {W : World} {B e size n b T : Nat} {v : Value} {xs : List Value} {cs : Array Value} (x0 x1 x2 x3 : Value) (h : W.ownsRow B e size v n xs) (hb : W.heap[b]? = some (.cells cs T)) (hT : T ≠ e) : (st4 W b x0 x1 x2 x3).ownsRow B e size v n xs := by
  have hne := row_ne_box h hb hT
  refine ⟨h.1, ?_⟩
  rcases h.2 with h0 | ⟨g', cap', cur, h1, h2, h3, h4⟩
  · exact .inl h0
  · exact .inr ⟨g', cap', cur, h1, h2, by rw [st4_other _ _ _ _ (fun e => hne (by rw [h1, ← e]; rfl))]; exact h3, h4⟩
abbrev zV : Array Value := vmC 0 (.slice none 0 0) false false
set_option maxRecDepth 20000 in
set_option maxHeartbeats 1600000 in
theorem Run_no (pc : Int) (pa ra ia : Option Addr) (pcap rc ic : Nat) (p : List In) (l i : List Int) (h f : Bool) (fuel : Int) (w : World)
    (hp : Iss w pa p) (hr : Row w ra l) (hl : l.length ≤ maxLen) (hi : Row w ia i) (hil : i.length ≤ maxLen) (hpl : p.length ≤ maxLen) (hE : rE p ⟨pc, l, h, f⟩ i fuel ≠ 0) :
    Calls Try.prog 8 #[.slice pa p.length pcap, .agg (vmC pc (.slice ra l.length rc) h f), .slice ia i.length ic, .int .i64 fuel] w fun e w' => e = .returned (.tuple #[.agg zV, .slice none 0 0, .int .i64 0, .int .i64 0, .int .i64 (rE p ⟨pc, l, h, f⟩ i fuel)]) ∧ Below w.heap.size w w' := by
  have HC := hid (fun W (hb : Below w.heap.size w W) => checkRun_any pc pa ra ia pcap rc ic p l i h f fuel W (hp.below hb (Nat.le_refl _)) (Row.below hr hb (Nat.le_refl _)) hl (Row.below hi hb (Nat.le_refl _)) hil hpl)
  have hE1 : (rE p ⟨pc, l, h, f⟩ i fuel != 0) = true := by simp [hE]
  generalize rE p ⟨pc, l, h, f⟩ i fuel = E at *
  clear hp hr hi hE hl hil hpl
  go_enter Try.func8, Try.ntmps8
  go_wp2_with (go_at_call 25; refine (HC.out _ (by go_grown)).mono ?_; rintro e w2 ⟨rfl, hb2⟩; have HX := hid ((B2.start w (vmC pc (.slice ra l.length rc) h f) zV 25 25).step hb2); have HB2 := hid hb2; have y0 := HX.out.c1 0; have y1 := HX.out.c1 1; have y2 := HX.out.c1 2; have y3 := HX.out.c1 3; simp at y0 y1 y2 y3; have f0 := froz_box (B2.box1 HX.out) 0; have f1 := froz_box (B2.box1 HX.out) 1; have f2 := froz_box (B2.box1 HX.out) 2; have f3 := froz_box (B2.box1 HX.out) 3; clear hb2)
  obtain ⟨w7, hw7⟩ : ∃ y, y = st4 w2 (w.heap.size + 1) (.int .i64 0) (.slice none 0 0) (.bool false) (.bool false) := ⟨_, rfl⟩
  have hw8 := hw7
  simp only [st4] at hw8
  rw [← hw8]
  clear hw8
  have HB7 : Hid (Below w.heap.size w w7) := by rw [hw7]; exact st4_below HX.out.bel (by omega)
  have HRES : Hid (Sem.run Try.prog (loadVar 25 ⟨w.heap.size + 1, 0, none⟩) w7 = .ok (.agg zV) w7) := by
    refine load_vm ?_
    rw [hw7]
    exact st4_heap (B2.box1 HX.out)
  (try simp only [Exit.inBlock, Exit.then])
  refine bodyPost_ret (by simp [results, Try.results8]; rw [as_addr, Result.andThen_ok, HRES.out, Result.andThen_ok]) rfl ?_
  exact ⟨rfl, HB7.out⟩
/-- what Run tells -/
def RunR (w0 w' : World) (p : List In) (s : St) (i : List Int) (fuel : Nat) (v : Value) (o : Value) (took used : Int) : Prop :=
  ∃ g cap, v = .agg (vmC (run (act p) fuel s i).s.pc (vS g 8 cap) (run (act p) fuel s i).s.halts (run (act p) fuel s i).s.fault) ∧
    OwnI w' w0.heap.size (vS g 8 cap) (run (act p) fuel s i).s.regs ∧ OwnEm w' w0.heap.size o (run (act p) fuel s i).out ∧ took = (run (act p) fuel s i).took ∧ used = (run (act p) fuel s i).used
set_option maxRecDepth 20000 in
set_option maxHeartbeats 3200000 in
theorem Run_yes (pc : Int) (pa ra ia : Option Addr) (pcap rc ic : Nat) (p : List In) (l i : List Int) (h f : Bool) (fuel : Int) (w : World)
    (hp : Iss w pa p) (hr : Row w ra l) (hl : l.length ≤ maxLen) (hi : Row w ia i) (hil : i.length ≤ maxLen) (hpl : p.length ≤ maxLen) (hE : rE p ⟨pc, l, h, f⟩ i fuel = 0) :
    Calls Try.prog 8 #[.slice pa p.length pcap, .agg (vmC pc (.slice ra l.length rc) h f), .slice ia i.length ic, .int .i64 fuel] w fun e w' => (∃ v o took used, e = .returned (.tuple #[v, o, .int .i64 took, .int .i64 used, .int .i64 0]) ∧ RunR w w' p ⟨pc, l, h, f⟩ i fuel.toNat v o took used) ∧ Below w.heap.size w w' := by
  have HC := hid (fun W (hb : Below w.heap.size w W) => checkRun_any pc pa ra ia pcap rc ic p l i h f fuel W (hp.below hb (Nat.le_refl _)) (Row.below hr hb (Nat.le_refl _)) hl (Row.below hi hb (Nat.le_refl _)) hil hpl)
  obtain ⟨hck, hok, hin, hf0, hf1, hi5⟩ := rE_zero hE
  rw [hE] at HC
  obtain ⟨fu, hfu⟩ : ∃ fu : Nat, fuel = fu := ⟨fuel.toNat, by omega⟩
  subst hfu
  have hfn : (fu : Int).toNat = fu := by omega
  rw [hfn]
  have hl8 : l.length = 8 := hok.len
  have hp1 := (chk_zero hck).1
  have HP := hid hp
  have HR := hid hr
  have HI := hid hi
  have HCK := hid hck
  have HOK := hid hok
  have HIN := hid hin
  have HL8 := hid hl8
  have hra : ∃ rb ro, ra = some ⟨rb, ro, none⟩ := by
    rcases hr with e | ⟨b, off, e, _⟩
    · rw [e] at hl8; simp at hl8
    · exact ⟨b, off, e⟩
  obtain ⟨rb, ro, rfl⟩ := hra
  rw [hl8] at HC ⊢
  obtain ⟨i0, hi', hz0, hz1, hz2⟩ := info_parts infoInt
  have Hi := hid hi'
  have Hz0 := hid hz0
  have Hz1 := hid hz1
  have Hz2 := hid hz2
  clear hp hr hi hE hl hil hpl hck hok hin hi' hz0 hz1 hz2 hl8 hfn hf0
  go_enter Try.func8, Try.ntmps8
  go_upto_region 4 with (go_at_call 25; refine (HC.out _ (by go_grown)).mono ?_; rintro e w2 ⟨rfl, hb2⟩; have HX := hid ((B2.start w (vmC pc (.slice (some ⟨rb, ro, none⟩) 8 rc) h f) zV 25 25).step hb2); have HB2 := hid hb2; have y0 := HX.out.c0 0; have y1 := HX.out.c0 1; have y2 := HX.out.c0 2; have y3 := HX.out.c0 3; simp at y0 y1 y2 y3; have hs2 := HX.out.size; have ne1 : ¬ w.heap.size = w2.heap.size := (by omega); have ne2 : ¬ w2.heap.size = w.heap.size := (by omega); clear hb2)
  have HWB := hid (HX.out.bel)
  have hx2 : Inp.At ⟨pa, pcap, p, ia, ic, i⟩ w2 := ⟨HP.out.below HWB.out (Nat.le_refl _), Row.below HI.out HWB.out (Nat.le_refl _), hp1, hi5⟩
  have HXA := hid hx2
  clear hx2
  have y1c := Lib.cell?_alloc_some (.cells #[.int .i64 pc, .slice (some ⟨rb, ro, none⟩) 8 rc, .bool h, .bool f, .slice pa p.length pcap, .slice ia i.length ic, .int .i64 0, .slice none 0 0] 53) y1
  go_wp2_with (at_builtin; refine wpList_append_own _ rfl _ _ 23 rfl w2.heap.size 3 i0 (.int .i64 0) 1 8 Try.underlying23 Hi.out Hz0.out Hz1.out Hz2.out rfl (by decide) _ 0 [] rfl ?qc0 ⟨rb, ro, none⟩ 8 rc (flI l) rfl ?qc1 ?qc2 ?qc3 ?qc4 ?qc5 ?qc6 ?_)
  case qc0 => exact World.ownsRow_nil _ _ _ _
  case qc1 => rw [flI_len, HL8.out]
  case qc2 => exact row_news (Row.below (Row.below HR.out HWB.out (Nat.le_refl _)) ((Below.refl _ _).alloc (Nat.le_refl _) _) (Nat.le_refl _))
  case qc3 => exact flI_one l
  case qc4 => unfold maxLen; omega
  case qc5 => omega
  case qc6 => simp
  intro v' w3 hown hgrow hnil
  have ho3 : OwnI w3 w2.heap.size v' l := by
    show w3.ownsRow _ _ _ _ _ _
    rw [HL8.out]
    simpa [flI] using hown
  obtain ⟨g, cap, hv', hg1, hg2⟩ : ∃ g cap, v' = vS g 8 cap ∧ w2.heap.size ≤ g ∧ g < w3.heap.size := by
    rcases OwnI.form ho3 with ⟨_, e⟩ | ⟨g, cap, e, h1, h2, _⟩
    · have := HL8.out; rw [e] at this; simp at this
    · exact ⟨g, cap, by rw [e, HL8.out], h1, h2⟩
  subst hv'
  have HG := hid hgrow
  have hb3 := box_grown (box_new w2 #[.int .i64 pc, .slice (some ⟨rb, ro, none⟩) 8 rc, .bool h, .bool f, .slice pa p.length pcap, .slice ia i.length ic, .int .i64 0, .slice none 0 0] 53) hgrow (by simp [Value.ownBlock])
  have HBX := hid hb3
  have hne := row_ne_box ho3 hb3 (by decide)
  have HM0 : Hid (Mc w2 (w3.setCell ⟨w2.heap.size, 1, none⟩ (vS g 8 cap)) ⟨pa, pcap, p, ia, ic, i⟩ w2.heap.size g cap ⟨pc, l, h, f⟩ 0 (.slice none 0 0) []) := by
    refine ⟨?_, ?_, ?_, ?_, Nat.le_refl _⟩
    · exact bel_set (((Below.refl _ w2).alloc (Nat.le_refl _) _).grown hgrow (by simp) (by simp [Value.ownBlock])) _ _ _ (Nat.le_refl _)
    · rw [heap_setCell_same _ _ _ _ _ _ hb3]; simp
    · exact ownsRow_setCell_other ho3 hne _
    · exact OwnEm.nil _ _
  have e1 := froz_box hb3 1
  have e2 := box_cell hb3 1
  simp at e2
  clear hown hgrow hnil hb3 hne ho3
  go_wp2_with fail
  generalize w3.setCell ⟨w2.heap.size, 1, none⟩ (vS g 8 cap) = w4 at *
  generalize hbn : w2.heap.size = bn at *
  have HBN := hid hbn
  clear e1 e2 y1c hbn
  go_loopw [15] (fun v15 wr => ∃ (k : Nat), k ≤ fu ∧ v15 = .int .i64 k ∧ Hid ((run (act p) k ⟨pc, l, h, f⟩ i).used = k) ∧ Hid (∃ ov, Mc w2 wr ⟨pa, pcap, p, ia, ic, i⟩ bn g cap (run (act p) k ⟨pc, l, h, f⟩ i).s (run (act p) k ⟨pc, l, h, f⟩ i).took ov (run (act p) k ⟨pc, l, h, f⟩ i).out)) (fun v15 _ => fu - (intOf v15).toNat)
  case atStart => exact ⟨0, by omega, rfl, rfl, _, HM0.out⟩
  case round =>
    obtain ⟨k, hk, rfl, hu, hmc⟩ := hrel
    obtain ⟨ov, hm⟩ := hmc.out
    have HM := hid hm
    have hro := run_ok HCK.out k _ i HOK.out HIN.out
    have hle := run_le (act := act p) k ⟨pc, l, h, f⟩ i
    have hnx := run_next (p := p) (s := ⟨pc, l, h, f⟩) (i := i) k
    have HRO := hid hro
    have HLE := hid hle
    have HNX := hid hnx
    clear hm hmc hro hle hnx
    have hfin : (k = fu ∨ goes p (run (act p) k ⟨pc, l, h, f⟩ i).s (decide ((run (act p) k ⟨pc, l, h, f⟩ i).took < i.length)) = false) → run (act p) fu ⟨pc, l, h, f⟩ i = run (act p) k ⟨pc, l, h, f⟩ i := by
      rintro (e | e)
      · rw [e]
      · have hc := run_cut (act := act p) k (fu - k) ⟨pc, l, h, f⟩ i
        rw [show k + (fu - k) = fu by omega] at hc
        rw [hc, goes_no (p := p) (i := i.drop (run (act p) k ⟨pc, l, h, f⟩ i).took) (by rw [← e]; congr 1; rw [List.length_drop]; simp; omega)]
        simp [Ran.then]
    have HFIN := hid hfin
    clear hfin
    by_cases hlt : k < fu
    · have i1 : (k : Int) < (fu : Int) := by omega
      have HGO := hid (goesOn_any HXA.out HRO.out.1 HM.out HLE.out.2.1)
      cases hgo : goes p (run (act p) k ⟨pc, l, h, f⟩ i).s (decide ((run (act p) k ⟨pc, l, h, f⟩ i).took < i.length))
      · have hfin := HFIN.out (.inr hgo)
        have HF := hid hfin
        rw [hgo] at HGO
        clear hfin hgo
        go_wp2_with (go_at_call 26; refine HGO.out.mono ?_; rintro e w5 ⟨rfl, m5, rfl⟩)
        have hV := HM.out.drewN m5
        clear HM HGO
        generalize wr.drewN m5 = V at *
        have hne7 : ¬ bn = w.heap.size + 1 := by have := HBN.out; omega
        have hne8 : ¬ w.heap.size + 1 = bn := by omega
        have HV := hid hV
        have c0 := hV.c 0
        have c1 := hV.c 1
        have c2 := hV.c 2
        have c3 := hV.c 3
        have c6 := hV.c 6
        have c7 := hV.c 7
        simp at c0 c1 c2 c3 c6 c7
        have hrb : V.heap[w.heap.size + 1]? = some (.cells zV 25) := by
          rw [hV.bel.block _ (by have := HBN.out; omega)]
          exact B2.box1 HX.out
        have HRB := hid hrb
        have t0 := box_cell hrb 0
        have t1 := box_cell hrb 1
        have t2 := box_cell hrb 2
        have t3 := box_cell hrb 3
        have f0 := froz_box hrb 0
        have f1 := froz_box hrb 1
        have f2 := froz_box hrb 2
        have f3 := froz_box hrb 3
        simp at t0 t1 t2 t3
        obtain ⟨oa, on, oc, hov⟩ : ∃ oa on oc, ov = .slice oa on oc := OwnEm.slice hV.out
        subst hov
        clear hV hrb
        generalize hRk : run (act p) k ⟨pc, l, h, f⟩ i = R at *
        have HRK := hid hRk
        clear hRk
        go_region
        go_wp2_with fail
        obtain ⟨w7, hw7⟩ : ∃ y, y = (st4 V (w.heap.size + 1) (.int .i64 R.s.pc) (vS g 8 cap) (.bool R.s.halts) (.bool R.s.fault)).drew := ⟨_, rfl⟩
        have hw8 := hw7
        simp only [st4] at hw8
        rw [← hw8]
        clear hw8
        have HB7 : Hid (Below w.heap.size w w7) := by
          rw [hw7]
          exact (st4_below (HX.out.bel.trans (HV.out.bel.mono (by have := HX.out.size; omega))) (by omega)).drew
        have HO7 : Hid (OwnI w7 w.heap.size (vS g 8 cap) R.s.regs) := by
          rw [hw7]
          exact World.ownsRow.drew (st4_own _ _ _ _ (OwnI.base' HV.out.regs (by have := HX.out.size; omega)) HRB.out (by decide))
        have HE7 : Hid (OwnEm w7 w.heap.size (.slice oa on oc) R.out) := by
          rw [hw7]
          exact World.ownsRow.drew (st4_own _ _ _ _ (OwnEm.base HV.out.out (by have := HX.out.size; omega)) HRB.out (by decide))
        have HRES : Hid (Sem.run Try.prog (loadVar 25 ⟨w.heap.size + 1, 0, none⟩) w7 = .ok (.agg (vmC R.s.pc (vS g 8 cap) R.s.halts R.s.fault)) w7) := by
          refine load_vm ?_
          rw [hw7]
          exact st4_heap HRB.out
        (try simp only [Exit.inBlock, Exit.then])
        refine bodyPost_ret (by simp [results, Try.results8]; rw [as_addr, Result.andThen_ok, HRES.out, Result.andThen_ok]) rfl ?_
        refine ⟨⟨_, _, _, _, rfl, ?_⟩, HB7.out⟩
        unfold RunR
        rw [HF.out]
        exact ⟨g, cap, rfl, HO7.out, HE7.out, rfl, by rw [hu.out]⟩
      · rw [hgo] at HGO
        have hy := goes_yes (p := p) (s := (run (act p) k ⟨pc, l, h, f⟩ i).s) (i := i.drop (run (act p) k ⟨pc, l, h, f⟩ i).took) (by rw [← hgo]; congr 1; rw [List.length_drop]; simp; omega)
        have hgd : (i.drop (run (act p) k ⟨pc, l, h, f⟩ i).took).getD 0 0 = i.getD (run (act p) k ⟨pc, l, h, f⟩ i).took 0 := by simp [List.getD]
        rw [hgd] at hy
        have HY := hid hy
        have HST := hid (fun (V : World) (hV : Mc w2 V ⟨pa, pcap, p, ia, ic, i⟩ bn g cap (run (act p) k ⟨pc, l, h, f⟩ i).s (run (act p) k ⟨pc, l, h, f⟩ i).took ov (run (act p) k ⟨pc, l, h, f⟩ i).out) => step_any HXA.out HCK.out HRO.out.1 hV hgo (by have := HRO.out.2; have := hu.out; omega))
        clear hy hgd hgo
        have HN1 : Hid (run (act p) (k + 1) ⟨pc, l, h, f⟩ i = (run (act p) k ⟨pc, l, h, f⟩ i).then (stp p (run (act p) k ⟨pc, l, h, f⟩ i).s (i.getD (run (act p) k ⟨pc, l, h, f⟩ i).took 0))) := by
          show _ = _
          rw [HNX.out, HY.out.1]
        go_wp2_with (first | (go_at_call 26; refine HGO.out.mono ?_; rintro e w5 ⟨rfl, m5, rfl⟩) | (go_at_call 27; refine (HST.out _ (HM.out.drewN m5)).mono ?_; rintro e w6 ⟨rfl, hm6⟩; have HM6 := hid hm6; clear hm6))
        go_roundw
        case rel =>
          refine ⟨k + 1, by omega, by go_num, ?_, ?_⟩
          · show _ = _
            rw [HN1.out]
            simp only [Ran.then]
            rw [hu.out, HY.out.2]
          · show ∃ _, _
            rw [HN1.out]
            exact HM6.out
        case measure => simp [intOf]; omega
    · have hfin := HFIN.out (.inl (by omega))
      have HF := hid hfin
      clear hfin
      go_wp2_with fail
      have hV := HM.out
      clear HM
      generalize wr = V at *
      have hne7 : ¬ bn = w.heap.size + 1 := by have := HBN.out; omega
      have hne8 : ¬ w.heap.size + 1 = bn := by omega
      have HV := hid hV
      have c0 := hV.c 0
      have c1 := hV.c 1
      have c2 := hV.c 2
      have c3 := hV.c 3
      have c6 := hV.c 6
      have c7 := hV.c 7
      simp at c0 c1 c2 c3 c6 c7
      have hrb : V.heap[w.heap.size + 1]? = some (.cells zV 25) := by
        rw [hV.bel.block _ (by have := HBN.out; omega)]
        exact B2.box1 HX.out
      have HRB := hid hrb
      have t0 := box_cell hrb 0
      have t1 := box_cell hrb 1
      have t2 := box_cell hrb 2
      have t3 := box_cell hrb 3
      have f0 := froz_box hrb 0
      have f1 := froz_box hrb 1
      have f2 := froz_box hrb 2
      have f3 := froz_box hrb 3
      simp at t0 t1 t2 t3
      obtain ⟨oa, on, oc, hov⟩ : ∃ oa on oc, ov = .slice oa on oc := OwnEm.slice hV.out
      subst hov
      clear hV hrb
      generalize hRk : run (act p) k ⟨pc, l, h, f⟩ i = R at *
      have HRK := hid hRk
      clear hRk
      go_region
      go_wp2_with fail
      obtain ⟨w7, hw7⟩ : ∃ y, y = (st4 V (w.heap.size + 1) (.int .i64 R.s.pc) (vS g 8 cap) (.bool R.s.halts) (.bool R.s.fault)).drew := ⟨_, rfl⟩
      have hw8 := hw7
      simp only [st4] at hw8
      rw [← hw8]
      clear hw8
      have HB7 : Hid (Below w.heap.size w w7) := by
        rw [hw7]
        exact (st4_below (HX.out.bel.trans (HV.out.bel.mono (by have := HX.out.size; omega))) (by omega)).drew
      have HO7 : Hid (OwnI w7 w.heap.size (vS g 8 cap) R.s.regs) := by
        rw [hw7]
        exact World.ownsRow.drew (st4_own _ _ _ _ (OwnI.base' HV.out.regs (by have := HX.out.size; omega)) HRB.out (by decide))
      have HE7 : Hid (OwnEm w7 w.heap.size (.slice oa on oc) R.out) := by
        rw [hw7]
        exact World.ownsRow.drew (st4_own _ _ _ _ (OwnEm.base HV.out.out (by have := HX.out.size; omega)) HRB.out (by decide))
      have HRES : Hid (Sem.run Try.prog (loadVar 25 ⟨w.heap.size + 1, 0, none⟩) w7 = .ok (.agg (vmC R.s.pc (vS g 8 cap) R.s.halts R.s.fault)) w7) := by
        refine load_vm ?_
        rw [hw7]
        exact st4_heap HRB.out
      (try simp only [Exit.inBlock, Exit.then])
      refine bodyPost_ret (by simp [results, Try.results8]; rw [as_addr, Result.andThen_ok, HRES.out, Result.andThen_ok]) rfl ?_
      refine ⟨⟨_, _, _, _, rfl, ?_⟩, HB7.out⟩
      unfold RunR
      rw [HF.out]
      exact ⟨g, cap, rfl, HO7.out, HE7.out, rfl, by rw [hu.out]⟩
end VmC
end Go.Proofs.Ytceflfdpbgnfjaa
