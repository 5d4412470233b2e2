/- The document's own answers about ports: PortRight (gen_prtr.py writes this text). -/
import Derived.Test.YtllfpbngfkimlaaPrtA
import Derived.Test.YtllfpbngfkimlaaPrtG
import Derived.Test.YtllfpbngfkimlaaSpanO
import Derived.Maps.OwnSet
import Derived.Maps.OwnOps
import Derived.Maps.Keyed
set_option linter.unusedVariables false
namespace Go.Proofs.Ytllfpbngfkimlaa
open Go.RowKit
open Go.Shelf Go.Sort
open SpanM SpanC IntsC
open Go.Maps
namespace PortC
open PrtM
theorem bet_yes (x lo hi : Int) (w : World) (h : lo ≤ x ∧ x ≤ hi) :
    Calls Try.prog 12 #[.int .i64 x, .int .i64 lo, .int .i64 hi] w fun e w' => e = .returned (.bool true) ∧ w' = w := by
  obtain ⟨h1, h2⟩ := h
  go_enter Try.func12, Try.ntmps12
  go_wp2
  go_ret
  exact ⟨rfl, rfl⟩
theorem bet_no (x lo hi : Int) (w : World) (h : ¬ (lo ≤ x ∧ x ≤ hi)) :
    Calls Try.prog 12 #[.int .i64 x, .int .i64 lo, .int .i64 hi] w fun e w' => e = .returned (.bool false) ∧ w' = w := by
  by_cases h1 : lo ≤ x
  · have h2 : ¬ x ≤ hi := fun k => h ⟨h1, k⟩
    clear h
    go_enter Try.func12, Try.ntmps12
    go_wp2
    go_ret
    exact ⟨rfl, rfl⟩
  · clear h
    go_enter Try.func12, Try.ntmps12
    go_wp2
    go_ret
    exact ⟨rfl, rfl⟩
theorem lawI : Keyed Try.prog 3 := int_keyed Try.underlying3
theorem zeroI (w : World) : (zeroValue 3).run Try.prog w = .ok (.int .i64 0) w := by kernel_rfl
theorem wf_of {t : Int} (h : wf64 t) : (Lit.int .i64 t).wf = true := by
  unfold wf64 at h
  exact WalkArith.wf_i64 (by omega)
theorem keyI {t : Int} (h : wf64 t) : keyOf Try.prog 3 (.int .i64 t) = some (.int .i64 t) := keyOf_int_mk Try.underlying3 (wf_of h)
abbrev DU := DataW Unit
def mostI (kd : Int) : Int := if kd = 1 then 1 else if kd = 2 then 100 else 0
theorem most_at (kd : Int) : DataW.atKey (H := Unit) (((DataW.map []).put (.int .i64 1) (.lit (.int .i64 1))).put (.int .i64 2) (.lit (.int .i64 100))) (.int .i64 kd) (.lit (.int .i64 0)) = .lit (.int .i64 (mostI kd)) := by
  unfold mostI
  by_cases h1 : kd = 1
  · subst h1; rfl
  · by_cases h2 : kd = 2
    · subst h2; rfl
    · rw [if_neg h1, if_neg h2]
      simp [DataW.put, DataW.insert, DataW.atKey, Lit.sameKey, Lit.before]
      split <;> simp_all [eq_comm]
/-- the map of how much room each kind may have -/
theorem most_run (W : World) (kd : Int) (hk : wf64 kd) : ∃ w3 w4, (Instr.mapUpdate 90 (.map (some W.heap.size)) (.int .i64 1) (.int .i64 1)).run Try.prog (W.alloc (.map #[] 0)) = .ok () w3 ∧ (Instr.mapUpdate 90 (.map (some W.heap.size)) (.int .i64 2) (.int .i64 100)).run Try.prog w3 = .ok () w4 ∧ (Instr.lookup 90 (.map (some W.heap.size)) (.int .i64 kd) false).run Try.prog w4 = .ok (.int .i64 (mostI kd)) w4 ∧ Below W.heap.size W w3 ∧ Below W.heap.size W w4 := by
  have h0 := World.ownsMap_made (H := Unit) W Try.prog 3 (plainElem Try.prog 3)
  have f1 : wf64 1 := ⟨by decide, by decide⟩
  have f2 : wf64 2 := ⟨by decide, by decide⟩
  have f3 : wf64 100 := ⟨by decide, by decide⟩
  obtain ⟨w3, r1, o1, g1⟩ := h0.update lawI Try.underlying90 (by unfold maxLen; omega) (keyI f1) (plainElem_int Try.underlying3 (wf_of f1))
  obtain ⟨w4, r2, o2, g2⟩ := o1.update lawI Try.underlying90 (by unfold maxLen; omega) (keyI f2) (plainElem_int Try.underlying3 (wf_of f3))
  obtain ⟨c, r3, e3, _⟩ := o2.lookup_int lawI Try.underlying90 Try.underlying3 (zeroI _) (keyI hk)
  rw [most_at kd] at e3
  have hc : mostI kd = c := by simpa using e3
  rw [← hc] at r3
  have b0 : Below W.heap.size W (W.alloc (.map #[] 0)) := (Below.refl _ W).alloc (Nat.le_refl _) _
  have b1 := b0.grown g1 b0.size (fun g hg => by simp at hg; omega)
  have b2 := b1.grown g2 b1.size (fun g hg => by simp at hg; omega)
  exact ⟨w3, w4, r1, r2, r3, b1, b2⟩
set_option maxRecDepth 20000 in
set_option maxHeartbeats 400000 in
theorem right_size (kd sz rm fr tm : Int) (a : Option Addr) (n c : Nat) (w : World) (hk : wf64 kd) (h1 : ¬ (1 ≤ sz ∧ sz ≤ 4096)) :
    Calls Try.prog 17 #[.agg #[.int .i64 kd, .int .i64 sz, .int .i64 rm, .int .i64 fr, .slice a n c, .int .i64 tm]] w fun e w' => e = .returned (.int .i64 1) ∧ Below w.heap.size w w' := by
  obtain ⟨w3, w4, r1, r2, r3, b3, b4⟩ := most_run (w.alloc (.cells #[.int .i64 kd, .int .i64 sz, .int .i64 rm, .int .i64 fr, .slice a n c, .int .i64 tm] 36)) kd hk
  rw [World.size_alloc] at r1 r2 r3
  have q3 := box_below (box_new w #[.int .i64 kd, .int .i64 sz, .int .i64 rm, .int .i64 fr, .slice a n c, .int .i64 tm] 36) b3 (Nat.le_refl _)
  have q4 := box_below (box_new w #[.int .i64 kd, .int .i64 sz, .int .i64 rm, .int .i64 fr, .slice a n c, .int .i64 tm] 36) b4 (Nat.le_refl _)
  obtain ⟨x0, x1, x2, x3, x4, x5⟩ := six_of q3
  obtain ⟨d0, d1, d2, d3, d4, d5⟩ := six_of q4
  have HB4 := hid (of_alloc (box1 b4))
  clear b3 b4 q3 q4
  have hmm := @run_makeMap Try.prog
  have H1 := hid (fun wx => bet_no sz 1 4096 wx h1)
  clear h1
  generalize mostI kd = mo at *
  go_enter Try.func17, Try.ntmps17
  go_wp2_with (first | (go_at_call 12; (with_reducible refine (H1.out _).mono ?_); rintro e wb ⟨rfl, rfl⟩))
  go_ret
  exact ⟨rfl, HB4.out⟩
set_option maxRecDepth 20000 in
set_option maxHeartbeats 400000 in
theorem right_room (kd sz rm fr tm : Int) (a : Option Addr) (n c : Nat) (w : World) (hk : wf64 kd) (h1 : 1 ≤ sz ∧ sz ≤ 4096) (h2 : ¬ (1 ≤ rm ∧ rm ≤ mostI kd)) :
    Calls Try.prog 17 #[.agg #[.int .i64 kd, .int .i64 sz, .int .i64 rm, .int .i64 fr, .slice a n c, .int .i64 tm]] w fun e w' => e = .returned (.int .i64 1) ∧ Below w.heap.size w w' := by
  obtain ⟨w3, w4, r1, r2, r3, b3, b4⟩ := most_run (w.alloc (.cells #[.int .i64 kd, .int .i64 sz, .int .i64 rm, .int .i64 fr, .slice a n c, .int .i64 tm] 36)) kd hk
  rw [World.size_alloc] at r1 r2 r3
  have q3 := box_below (box_new w #[.int .i64 kd, .int .i64 sz, .int .i64 rm, .int .i64 fr, .slice a n c, .int .i64 tm] 36) b3 (Nat.le_refl _)
  have q4 := box_below (box_new w #[.int .i64 kd, .int .i64 sz, .int .i64 rm, .int .i64 fr, .slice a n c, .int .i64 tm] 36) b4 (Nat.le_refl _)
  obtain ⟨x0, x1, x2, x3, x4, x5⟩ := six_of q3
  obtain ⟨d0, d1, d2, d3, d4, d5⟩ := six_of q4
  have HB4 := hid (of_alloc (box1 b4))
  clear b3 b4 q3 q4
  have hmm := @run_makeMap Try.prog
  have H1 := hid (fun wx => bet_yes sz 1 4096 wx h1)
  have H2 := hid (fun wx => bet_no rm 1 (mostI kd) wx h2)
  clear h1 h2
  generalize mostI kd = mo at *
  go_enter Try.func17, Try.ntmps17
  go_wp2_with (first | (go_at_call 12; (with_reducible refine (H1.out _).mono ?_); rintro e wb ⟨rfl, rfl⟩) | (go_at_call 12; (with_reducible refine (H2.out _).mono ?_); rintro e wb ⟨rfl, rfl⟩))
  go_ret
  exact ⟨rfl, HB4.out⟩
set_option maxRecDepth 20000 in
set_option maxHeartbeats 400000 in
theorem right_fresh1 (sz rm fr tm : Int) (a : Option Addr) (n c : Nat) (w : World) (h1 : 1 ≤ sz ∧ sz ≤ 4096) (h2 : 1 ≤ rm ∧ rm ≤ 1) (h3 : ¬ (0 ≤ fr ∧ fr ≤ 1099511627776)) :
    Calls Try.prog 17 #[.agg #[.int .i64 1, .int .i64 sz, .int .i64 rm, .int .i64 fr, .slice a n c, .int .i64 tm]] w fun e w' => e = .returned (.int .i64 1) ∧ Below w.heap.size w w' := by
  obtain ⟨w3, w4, r1, r2, r3, b3, b4⟩ := most_run (w.alloc (.cells #[.int .i64 1, .int .i64 sz, .int .i64 rm, .int .i64 fr, .slice a n c, .int .i64 tm] 36)) 1 ⟨by decide, by decide⟩
  rw [World.size_alloc] at r1 r2 r3
  rw [show mostI 1 = 1 from rfl] at r3
  have q3 := box_below (box_new w #[.int .i64 1, .int .i64 sz, .int .i64 rm, .int .i64 fr, .slice a n c, .int .i64 tm] 36) b3 (Nat.le_refl _)
  have q4 := box_below (box_new w #[.int .i64 1, .int .i64 sz, .int .i64 rm, .int .i64 fr, .slice a n c, .int .i64 tm] 36) b4 (Nat.le_refl _)
  obtain ⟨x0, x1, x2, x3, x4, x5⟩ := six_of q3
  obtain ⟨d0, d1, d2, d3, d4, d5⟩ := six_of q4
  have HB4 := hid (of_alloc (box1 b4))
  clear b3 b4 q3 q4
  have hmm := @run_makeMap Try.prog
  have H1 := hid (fun wx => bet_yes sz 1 4096 wx h1)
  have H2 := hid (fun wx => bet_yes rm 1 1 wx h2)
  have H3 := hid (fun wx => bet_no fr 0 1099511627776 wx h3)
  clear h1 h2 h3
  go_enter Try.func17, Try.ntmps17
  go_wp2_with (first | (go_at_call 12; (with_reducible refine (H1.out _).mono ?_); rintro e wb ⟨rfl, rfl⟩) | (go_at_call 12; (with_reducible refine (H2.out _).mono ?_); rintro e wb ⟨rfl, rfl⟩) | (go_at_call 12; (with_reducible refine (H3.out _).mono ?_); rintro e wb ⟨rfl, rfl⟩))
  go_ret
  exact ⟨rfl, HB4.out⟩
set_option maxRecDepth 20000 in
set_option maxHeartbeats 1600000 in
theorem right_form1 (sz rm fr tm : Int) (a : Option Addr) (c : Nat) (l : List ByteArray) (w : World) (h1 : 1 ≤ sz ∧ sz ≤ 4096) (h2 : 1 ≤ rm ∧ rm ≤ 1) (h3 : 0 ≤ fr ∧ fr ≤ 1099511627776) (hr : RdS w a l) (hl : l.length ≤ 9223372036854775807) :
    Calls Try.prog 17 #[.agg #[.int .i64 1, .int .i64 sz, .int .i64 rm, .int .i64 fr, .slice a l.length c, .int .i64 tm]] w fun e w' => e = .returned (.int .i64 (chk ⟨1, sz, rm, fr, l, tm⟩)) ∧ Below w.heap.size w w' := by
  have ha : okArg ⟨1, sz, rm, fr, l, tm⟩ := ⟨.inl rfl, h1, fun _ => ⟨by have := h2.1; have := h2.2; simp only; omega, h3.1, h3.2⟩, fun q => by simp at q⟩
  have HNO : Hid (∀ k, k < l.length → sz < ((l.getD k e0).size : Int) → chk ⟨1, sz, rm, fr, l, tm⟩ = 4) := fun k hk q => chk_form ha (fun z => Int.not_lt.2 (z.1.2 _ (get_mem hk)) q)
  have HLN : Hid (rm < (l.length : Int) → chk ⟨1, sz, rm, fr, l, tm⟩ = 4) := fun q => chk_form ha (fun z => Int.not_lt.2 z.1.1 q)
  have HTM : Hid (¬ (0 ≤ tm ∧ tm ≤ (if l.length = 1 then 1099511627776 else 0)) → chk ⟨1, sz, rm, fr, l, tm⟩ = 4) := fun q => chk_form ha (fun z => q (by
    obtain ⟨⟨z1, _⟩, z2, z3⟩ := z
    simp only at z1 z2 z3
    refine ⟨z2.1, ?_⟩
    by_cases t0 : tm = 0
    · rw [t0]; split <;> decide
    · have h5 := (z3 t0).1
      have h6 : l.length = 1 := by
        have : 0 < l.length := List.length_pos_iff.2 h5
        have := h2.2
        omega
      rw [if_pos h6]; exact z2.2))
  have HOK : Hid ((∀ s ∈ l, (s.size : Int) ≤ sz) → ¬ rm < (l.length : Int) → (0 ≤ tm ∧ tm ≤ (if l.length = 1 then 1099511627776 else 0)) → chk ⟨1, sz, rm, fr, l, tm⟩ = 0) := fun q1 q2 q3 => chk_ok ha ⟨⟨by simp only; omega, q1⟩, by
      simp only
      refine ⟨⟨q3.1, Int.le_trans q3.2 (by split <;> decide)⟩, fun t0 => ?_⟩
      by_cases h6 : l.length = 1
      · exact ⟨fun e => by rw [e] at h6; simp at h6, trivial⟩
      · rw [if_neg h6] at q3; omega⟩
  generalize chk ⟨1, sz, rm, fr, l, tm⟩ = E at *
  obtain ⟨w3, w4, r1, r2, r3, b3, b4⟩ := most_run (w.alloc (.cells #[.int .i64 1, .int .i64 sz, .int .i64 rm, .int .i64 fr, .slice a l.length c, .int .i64 tm] 36)) 1 ⟨by decide, by decide⟩
  rw [World.size_alloc] at r1 r2 r3
  rw [show mostI 1 = 1 from rfl] at r3
  have q3 := box_below (box_new w #[.int .i64 1, .int .i64 sz, .int .i64 rm, .int .i64 fr, .slice a l.length c, .int .i64 tm] 36) b3 (Nat.le_refl _)
  have q4 := box_below (box_new w #[.int .i64 1, .int .i64 sz, .int .i64 rm, .int .i64 fr, .slice a l.length c, .int .i64 tm] 36) b4 (Nat.le_refl _)
  obtain ⟨x0, x1, x2, x3, x4, x5⟩ := six_of q3
  obtain ⟨d0, d1, d2, d3, d4, d5⟩ := six_of q4
  have HB4 := hid (of_alloc (box1 b4))
  clear b3 b4 q3 q4
  have hmm := @run_makeMap Try.prog
  have H1 := hid (fun wx => bet_yes sz 1 4096 wx h1)
  have H2 := hid (fun wx => bet_yes rm 1 1 wx h2)
  have H3 := hid (fun wx => bet_yes fr 0 1099511627776 wx h3)
  have HR := hid hr
  have hbw : Hid (∀ k, k < l.length → ∀ b off, a = some ⟨b, off, none⟩ → b < w.heap.size) := fun k hk b off e => by
    obtain ⟨b', off', e', c1⟩ := RdS.get hr k hk
    rw [e] at e'
    cases e'
    exact World.block_lt_of_cell? w _ c1
  clear h1 h2 h3 hr ha
  go_enter Try.func17, Try.ntmps17
  go_wp2_with (first | (go_at_call 12; (with_reducible refine (H1.out _).mono ?_); rintro e wb ⟨rfl, rfl⟩) | (go_at_call 12; (with_reducible refine (H2.out _).mono ?_); rintro e wb ⟨rfl, rfl⟩) | (go_at_call 12; (with_reducible refine (H3.out _).mono ?_); rintro e wb ⟨rfl, rfl⟩))
  go_loop [36] (fun t => ∃ k : Nat, k ≤ l.length ∧ t = .int .i64 k ∧ Hid (∀ s ∈ l.take k, (s.size : Int) ≤ sz)) (fun t => l.length - (intOf t).toNat)
  case atStart => exact ⟨0, by omega, rfl, fun s hs => by simp at hs⟩
  case round =>
    obtain ⟨k, hk, rfl, HK⟩ := hrel
    by_cases hlt : k < l.length
    · obtain ⟨b, off, hab, hc⟩ := RdS.get HR.out k hlt
      have hb0 := hbw.out k hlt b off hab
      replace hc := (HB4.out.cell hb0).trans hc
      subst hab
      have i1 : (k : Int) < (l.length : Int) := by omega
      have HS := hid (fun h2 => all_step hlt HK.out h2)
      have HG2 := hid (HNO.out k hlt)
      generalize l.getD k e0 = s at *
      by_cases hs : (s.size : Int) ≤ sz
      · have hs' : ¬ sz < (s.size : Int) := by omega
        have HS2 := hid (HS.out hs)
        clear hb0
        go_wp2_with fail
        go_round
        case rel => exact ⟨k + 1, by omega, by go_num, HS2.out⟩
        case measure => simp [intOf]; omega
      · have hs' : sz < (s.size : Int) := by omega
        have HG3 := hid (HG2.out hs')
        clear hb0
        go_wp2_with fail
        go_ret
        exact ⟨by rw [HG3.out]; rfl, HB4.out⟩
    · have HALL : Hid (∀ s ∈ l, (s.size : Int) ≤ sz) := by have := HK.out; rwa [List.take_of_length_le (by omega)] at this
      have HOK2 := hid (HOK.out HALL.out)
      obtain ⟨n, hn⟩ : ∃ n, n = l.length := ⟨_, rfl⟩
      rw [← hn] at HTM HLN HOK2 d4 x4 hk hlt
      by_cases h6 : n = 1
      · rw [if_pos h6] at HTM HOK2
        have h7 : ((n : Int) == 1) = true := by simp [h6]
        by_cases h8 : rm < (n : Int)
        · have HE := hid (HLN.out (by omega))
          rw [← hn]
          clear HTM HLN HOK HOK2 HNO h6 hn
          go_wp2_with fail
          go_ret
          exact ⟨by rw [HE.out]; rfl, HB4.out⟩
        · by_cases h9 : 0 ≤ tm ∧ tm ≤ 1099511627776
          · have HE := hid (HOK2.out (by omega) h9)
            have H4 := hid (fun wx => bet_yes tm 0 1099511627776 wx h9)
            rw [← hn]
            clear HTM HLN HOK HOK2 HNO h6 hn h9
            go_wp2_with (go_at_call 12; (with_reducible refine (H4.out _).mono ?_); rintro e wb ⟨rfl, rfl⟩)
            go_ret
            exact ⟨by rw [HE.out]; rfl, HB4.out⟩
          · have HE := hid (HTM.out h9)
            have H4 := hid (fun wx => bet_no tm 0 1099511627776 wx h9)
            rw [← hn]
            clear HTM HLN HOK HOK2 HNO h6 hn h9
            go_wp2_with (go_at_call 12; (with_reducible refine (H4.out _).mono ?_); rintro e wb ⟨rfl, rfl⟩)
            go_ret
            exact ⟨by rw [HE.out]; rfl, HB4.out⟩
      · rw [if_neg h6] at HTM HOK2
        have h7 : ((n : Int) == 1) = false := by simp; omega
        by_cases h8 : rm < (n : Int)
        · have HE := hid (HLN.out (by omega))
          rw [← hn]
          clear HTM HLN HOK HOK2 HNO h6 hn
          go_wp2_with fail
          go_ret
          exact ⟨by rw [HE.out]; rfl, HB4.out⟩
        · by_cases h9 : 0 ≤ tm ∧ tm ≤ 0
          · have HE := hid (HOK2.out (by omega) h9)
            have H4 := hid (fun wx => bet_yes tm 0 0 wx h9)
            rw [← hn]
            clear HTM HLN HOK HOK2 HNO h6 hn h9
            go_wp2_with (go_at_call 12; (with_reducible refine (H4.out _).mono ?_); rintro e wb ⟨rfl, rfl⟩)
            go_ret
            exact ⟨by rw [HE.out]; rfl, HB4.out⟩
          · have HE := hid (HTM.out h9)
            have H4 := hid (fun wx => bet_no tm 0 0 wx h9)
            rw [← hn]
            clear HTM HLN HOK HOK2 HNO h6 hn h9
            go_wp2_with (go_at_call 12; (with_reducible refine (H4.out _).mono ?_); rintro e wb ⟨rfl, rfl⟩)
            go_ret
            exact ⟨by rw [HE.out]; rfl, HB4.out⟩
set_option maxRecDepth 20000 in
set_option maxHeartbeats 400000 in
theorem right_fresh2 (sz rm fr tm : Int) (a : Option Addr) (n c : Nat) (w : World) (h1 : 1 ≤ sz ∧ sz ≤ 4096) (h2 : 1 ≤ rm ∧ rm ≤ 100) (h3 : ¬ (0 ≤ fr ∧ fr ≤ 0)) :
    Calls Try.prog 17 #[.agg #[.int .i64 2, .int .i64 sz, .int .i64 rm, .int .i64 fr, .slice a n c, .int .i64 tm]] w fun e w' => e = .returned (.int .i64 1) ∧ Below w.heap.size w w' := by
  obtain ⟨w3, w4, r1, r2, r3, b3, b4⟩ := most_run (w.alloc (.cells #[.int .i64 2, .int .i64 sz, .int .i64 rm, .int .i64 fr, .slice a n c, .int .i64 tm] 36)) 2 ⟨by decide, by decide⟩
  rw [World.size_alloc] at r1 r2 r3
  rw [show mostI 2 = 100 from rfl] at r3
  have q3 := box_below (box_new w #[.int .i64 2, .int .i64 sz, .int .i64 rm, .int .i64 fr, .slice a n c, .int .i64 tm] 36) b3 (Nat.le_refl _)
  have q4 := box_below (box_new w #[.int .i64 2, .int .i64 sz, .int .i64 rm, .int .i64 fr, .slice a n c, .int .i64 tm] 36) b4 (Nat.le_refl _)
  obtain ⟨x0, x1, x2, x3, x4, x5⟩ := six_of q3
  obtain ⟨d0, d1, d2, d3, d4, d5⟩ := six_of q4
  have HB4 := hid (of_alloc (box1 b4))
  clear b3 b4 q3 q4
  have hmm := @run_makeMap Try.prog
  have H1 := hid (fun wx => bet_yes sz 1 4096 wx h1)
  have H2 := hid (fun wx => bet_yes rm 1 100 wx h2)
  have H3 := hid (fun wx => bet_no fr 0 0 wx h3)
  clear h1 h2 h3
  go_enter Try.func17, Try.ntmps17
  go_wp2_with (first | (go_at_call 12; (with_reducible refine (H1.out _).mono ?_); rintro e wb ⟨rfl, rfl⟩) | (go_at_call 12; (with_reducible refine (H2.out _).mono ?_); rintro e wb ⟨rfl, rfl⟩) | (go_at_call 12; (with_reducible refine (H3.out _).mono ?_); rintro e wb ⟨rfl, rfl⟩))
  go_ret
  exact ⟨rfl, HB4.out⟩
set_option maxRecDepth 20000 in
set_option maxHeartbeats 1600000 in
theorem right_form2 (sz rm fr tm : Int) (a : Option Addr) (c : Nat) (l : List ByteArray) (w : World) (h1 : 1 ≤ sz ∧ sz ≤ 4096) (h2 : 1 ≤ rm ∧ rm ≤ 100) (h3 : 0 ≤ fr ∧ fr ≤ 0) (hr : RdS w a l) (hl : l.length ≤ 9223372036854775807) :
    Calls Try.prog 17 #[.agg #[.int .i64 2, .int .i64 sz, .int .i64 rm, .int .i64 fr, .slice a l.length c, .int .i64 tm]] w fun e w' => e = .returned (.int .i64 (chk ⟨2, sz, rm, fr, l, tm⟩)) ∧ Below w.heap.size w w' := by
  have ha : okArg ⟨2, sz, rm, fr, l, tm⟩ := ⟨.inr rfl, h1, fun q => by simp at q, fun _ => ⟨h2.1, h2.2, by have := h3.1; have := h3.2; simp only; omega⟩⟩
  have HNO : Hid (∀ k, k < l.length → sz < ((l.getD k e0).size : Int) → chk ⟨2, sz, rm, fr, l, tm⟩ = 4) := fun k hk q => chk_form ha (fun z => Int.not_lt.2 (z.1.2 _ (get_mem hk)) q)
  have HLN : Hid (rm < (l.length : Int) → chk ⟨2, sz, rm, fr, l, tm⟩ = 4) := fun q => chk_form ha (fun z => Int.not_lt.2 z.1.1 q)
  have HTM : Hid (¬ (0 ≤ tm ∧ tm ≤ (if False then 1099511627776 else 0)) → chk ⟨2, sz, rm, fr, l, tm⟩ = 4) := fun q => chk_form ha (fun z => q (by
    obtain ⟨⟨z1, _⟩, z2, z3⟩ := z
    simp only at z1 z2 z3
    refine ⟨z2.1, ?_⟩
    by_cases t0 : tm = 0
    · rw [t0]; decide
    · exact absurd (z3 t0).2 (by simp)))
  have HOK : Hid ((∀ s ∈ l, (s.size : Int) ≤ sz) → ¬ rm < (l.length : Int) → (0 ≤ tm ∧ tm ≤ (if False then 1099511627776 else 0)) → chk ⟨2, sz, rm, fr, l, tm⟩ = 0) := fun q1 q2 q3 => chk_ok ha ⟨⟨by simp only; omega, q1⟩, by
      simp only
      rw [if_neg (by simp)] at q3
      exact ⟨⟨q3.1, Int.le_trans q3.2 (by decide)⟩, fun t0 => by omega⟩⟩
  generalize chk ⟨2, sz, rm, fr, l, tm⟩ = E at *
  obtain ⟨w3, w4, r1, r2, r3, b3, b4⟩ := most_run (w.alloc (.cells #[.int .i64 2, .int .i64 sz, .int .i64 rm, .int .i64 fr, .slice a l.length c, .int .i64 tm] 36)) 2 ⟨by decide, by decide⟩
  rw [World.size_alloc] at r1 r2 r3
  rw [show mostI 2 = 100 from rfl] at r3
  have q3 := box_below (box_new w #[.int .i64 2, .int .i64 sz, .int .i64 rm, .int .i64 fr, .slice a l.length c, .int .i64 tm] 36) b3 (Nat.le_refl _)
  have q4 := box_below (box_new w #[.int .i64 2, .int .i64 sz, .int .i64 rm, .int .i64 fr, .slice a l.length c, .int .i64 tm] 36) b4 (Nat.le_refl _)
  obtain ⟨x0, x1, x2, x3, x4, x5⟩ := six_of q3
  obtain ⟨d0, d1, d2, d3, d4, d5⟩ := six_of q4
  have HB4 := hid (of_alloc (box1 b4))
  clear b3 b4 q3 q4
  have hmm := @run_makeMap Try.prog
  have H1 := hid (fun wx => bet_yes sz 1 4096 wx h1)
  have H2 := hid (fun wx => bet_yes rm 1 100 wx h2)
  have H3 := hid (fun wx => bet_yes fr 0 0 wx h3)
  have HR := hid hr
  have hbw : Hid (∀ k, k < l.length → ∀ b off, a = some ⟨b, off, none⟩ → b < w.heap.size) := fun k hk b off e => by
    obtain ⟨b', off', e', c1⟩ := RdS.get hr k hk
    rw [e] at e'
    cases e'
    exact World.block_lt_of_cell? w _ c1
  clear h1 h2 h3 hr ha
  go_enter Try.func17, Try.ntmps17
  go_wp2_with (first | (go_at_call 12; (with_reducible refine (H1.out _).mono ?_); rintro e wb ⟨rfl, rfl⟩) | (go_at_call 12; (with_reducible refine (H2.out _).mono ?_); rintro e wb ⟨rfl, rfl⟩) | (go_at_call 12; (with_reducible refine (H3.out _).mono ?_); rintro e wb ⟨rfl, rfl⟩))
  go_loop [36] (fun t => ∃ k : Nat, k ≤ l.length ∧ t = .int .i64 k ∧ Hid (∀ s ∈ l.take k, (s.size : Int) ≤ sz)) (fun t => l.length - (intOf t).toNat)
  case atStart => exact ⟨0, by omega, rfl, fun s hs => by simp at hs⟩
  case round =>
    obtain ⟨k, hk, rfl, HK⟩ := hrel
    by_cases hlt : k < l.length
    · obtain ⟨b, off, hab, hc⟩ := RdS.get HR.out k hlt
      have hb0 := hbw.out k hlt b off hab
      replace hc := (HB4.out.cell hb0).trans hc
      subst hab
      have i1 : (k : Int) < (l.length : Int) := by omega
      have HS := hid (fun h2 => all_step hlt HK.out h2)
      have HG2 := hid (HNO.out k hlt)
      generalize l.getD k e0 = s at *
      by_cases hs : (s.size : Int) ≤ sz
      · have hs' : ¬ sz < (s.size : Int) := by omega
        have HS2 := hid (HS.out hs)
        clear hb0
        go_wp2_with fail
        go_round
        case rel => exact ⟨k + 1, by omega, by go_num, HS2.out⟩
        case measure => simp [intOf]; omega
      · have hs' : sz < (s.size : Int) := by omega
        have HG3 := hid (HG2.out hs')
        clear hb0
        go_wp2_with fail
        go_ret
        exact ⟨by rw [HG3.out]; rfl, HB4.out⟩
    · have HALL : Hid (∀ s ∈ l, (s.size : Int) ≤ sz) := by have := HK.out; rwa [List.take_of_length_le (by omega)] at this
      have HOK2 := hid (HOK.out HALL.out)
      obtain ⟨n, hn⟩ : ∃ n, n = l.length := ⟨_, rfl⟩
      rw [← hn] at HLN HOK2 d4 x4 hk hlt
      rw [if_neg (by simp)] at HTM HOK2
      by_cases h8 : rm < (n : Int)
      · have HE := hid (HLN.out (by omega))
        rw [← hn]
        clear HTM HLN HOK HOK2 HNO hn
        go_wp2_with fail
        go_ret
        exact ⟨by rw [HE.out]; rfl, HB4.out⟩
      · by_cases h9 : 0 ≤ tm ∧ tm ≤ 0
        · have HE := hid (HOK2.out (by omega) h9)
          have H4 := hid (fun wx => bet_yes tm 0 0 wx h9)
          rw [← hn]
          clear HTM HLN HOK HOK2 HNO hn h9
          go_wp2_with (go_at_call 12; (with_reducible refine (H4.out _).mono ?_); rintro e wb ⟨rfl, rfl⟩)
          go_ret
          exact ⟨by rw [HE.out]; rfl, HB4.out⟩
        · have HE := hid (HTM.out h9)
          have H4 := hid (fun wx => bet_no tm 0 0 wx h9)
          rw [← hn]
          clear HTM HLN HOK HOK2 HNO hn h9
          go_wp2_with (go_at_call 12; (with_reducible refine (H4.out _).mono ?_); rintro e wb ⟨rfl, rfl⟩)
          go_ret
          exact ⟨by rw [HE.out]; rfl, HB4.out⟩
theorem Right_any (p : Pt) (hk : wf64 p.kind) (a : Option Addr) (c : Nat) (w : World) (hr : RdS w a p.texts) (hl : p.texts.length ≤ 9223372036854775807) :
    Calls Try.prog 17 #[vP p (.slice a p.texts.length c)] w fun e w' => e = .returned (.int .i64 (chk p)) ∧ Below w.heap.size w w' := by
  obtain ⟨kd, sz, rm, fr, l, tm⟩ := p
  show Calls Try.prog _ #[.agg #[.int .i64 kd, .int .i64 sz, .int .i64 rm, .int .i64 fr, .slice a l.length c, .int .i64 tm]] _ _
  have hr : RdS w a l := hr
  have hl : l.length ≤ 9223372036854775807 := hl
  have hk : wf64 kd := hk
  by_cases h1 : 1 ≤ sz ∧ sz ≤ 4096
  · by_cases k1 : kd = 1
    · subst k1
      by_cases h2 : 1 ≤ rm ∧ rm ≤ 1
      · by_cases h3 : 0 ≤ fr ∧ fr ≤ 1099511627776
        · exact right_form1 sz rm fr tm a c l w h1 h2 h3 hr hl
        · rw [chk_arg (fun q => h3 (q.2.2.1 rfl).2)]
          exact right_fresh1 sz rm fr tm a _ c w h1 h2 h3
      · rw [chk_arg (fun q => h2 (by have := (q.2.2.1 rfl).1; simp only at this; omega))]
        exact right_room 1 sz rm fr tm a _ c w hk h1 h2
    · by_cases k2 : kd = 2
      · subst k2
        by_cases h2 : 1 ≤ rm ∧ rm ≤ 100
        · by_cases h3 : 0 ≤ fr ∧ fr ≤ 0
          · exact right_form2 sz rm fr tm a c l w h1 h2 h3 hr hl
          · rw [chk_arg (fun q => h3 (by have := (q.2.2.2 rfl).2.2; simp only at this; omega))]
            exact right_fresh2 sz rm fr tm a _ c w h1 h2 h3
        · rw [chk_arg (fun q => h2 ⟨(q.2.2.2 rfl).1, (q.2.2.2 rfl).2.1⟩)]
          exact right_room 2 sz rm fr tm a _ c w hk h1 h2
      · rw [chk_arg (fun q => by rcases q.1 with q | q; exact k1 q; exact k2 q)]
        exact right_room kd sz rm fr tm a _ c w hk h1 (by unfold mostI; rw [if_neg k1, if_neg k2]; omega)
  · rw [chk_arg (fun q => h1 q.2.1)]
    exact right_size kd sz rm fr tm a _ c w hk h1
end PortC
end Go.Proofs.Ytllfpbngfkimlaa
