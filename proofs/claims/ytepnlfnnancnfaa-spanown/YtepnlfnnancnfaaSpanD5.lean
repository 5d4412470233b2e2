/- Of, with what the spare cells hold. -/
import Derived.Test.YtepnlfnnancnfaaSpanD4
set_option linter.unusedVariables false
namespace Go.Proofs.Ytepnlfnnancnfaa
open Go.RowKit
open SpanM
namespace SpanC
def OfToldK (size : Int) (l : List Sp) (B : Nat) (e : Ending) (w' : World) : Prop :=
  ∃ v r, e = .returned (.tuple #[.agg #[.int .i64 size, v], .int .i64 0]) ∧ OwnK w' B v r ∧ good size (-1) r = true ∧ (∀ t, mem r t = mem l t) ∧ r.length ≤ 200
set_option maxHeartbeats 800000 in
theorem of_listK (size : Int) (a : Option Addr) (cap : Nat) (l : List Sp) (w : World) (h1 : 1 ≤ size) (h2 : size ≤ 1000000) (h : ¬ 200 < l.length) (hr : Sps w a l) :
    Calls Try.prog 31 #[.int .i64 size, .slice a l.length cap] w fun e w' => ((ofG size l = 0 ∧ OfToldK size l w.heap.size e w') ∨ (ofG size l = 4 ∧ e = .returned (.tuple #[.agg #[.int .i64 0, .slice none 0 0], .int .i64 4]))) ∧ Below w.heap.size w w' := by
  have hn : ¬ (200 : Int) < (l.length : Int) := by omega
  have HR := hid hr
  clear hr
  go_enter Try.func31, Try.ntmps31
  go_wp2_with (first | (go_at_call 43; go_call (within_yes _ _ _ _) as e w' ⟨rfl, rfl⟩) | (go_at_call 43; go_call (within_no _ _ _ _) as e w' ⟨rfl, rfl⟩))
  go_loopw [18] (fun v18 wr => ∃ (k : Nat), k ≤ l.length ∧ v18 = .int .i64 k ∧ Hid ((l.take k).all (fit size) = true) ∧ RBox w wr w.heap.size) (fun v18 _ => l.length - (intOf v18).toNat)
  case atStart => exact ⟨0, by omega, rfl, by show _ = _; simp, RBox.alloc0 w⟩
  case round =>
    obtain ⟨k, hk, rfl, hg, rb⟩ := hrel
    have RB := hid rb
    have hsz := rb.sz
    by_cases hlt : k < l.length
    · obtain ⟨b, off, rfl, hbw, d1, d2⟩ := (HR.out.below rb.be (Nat.le_refl _)).at k hlt
      have hd := take_snoc l k hlt
      have hmem : l.getD k (0, 0) ∈ l := by simp [List.getD, hlt]
      generalize hz : l.getD k (0, 0) = z at d1 d2 hd hmem
      obtain ⟨f, t⟩ := z
      have Hd := hid hd
      have Hm := hid hmem
      clear hz hd hmem
      simp only at d1 d2
      have C : (0 ≤ f ∧ f ≤ t ∧ t ≤ size) ∨ ¬ (0 ≤ f ∧ f ≤ t) ∨ (0 ≤ f ∧ f ≤ t ∧ size < t) := by omega
      rcases C with ⟨o1, o2, o3⟩ | o1 | ⟨o1, o2, o3⟩
      · clear rb
        go_wp2_with (first | (go_at_call 43; go_call (within_yes _ _ _ _) as e w' ⟨rfl, rfl⟩))
        go_roundw
        case rel =>
          refine ⟨k + 1, by omega, by go_num, ?_, RB.out.step (Below.alloc (Below.refl _ _) (by omega) _) (Nat.le_refl _)⟩
          show _ = _
          rw [Hd.out, List.all_append, hg.out]
          simp [fit, o1, o2, o3]
        case measure => simp [intOf]; omega
      all_goals
        have HF : Hid (ofG size l = 4) := by
          show _ = _
          unfold ofG
          rw [if_neg]
          intro hh
          have := (fit_iff _ _).1 (List.all_eq_true.1 hh _ Hm.out)
          simp only at this
          omega
        have RB2 := hid (RB.out.step (Below.alloc (Below.refl _ _) (by omega) (.cells #[.int .i64 f, .int .i64 t] 45)) (Nat.le_refl _))
        obtain ⟨x1, x2, x3, x4, x5, x6⟩ := rb
        go_wp2_with (first | (go_at_call 43; go_call (within_yes _ _ _ _) as e w' ⟨rfl, rfl⟩) | (go_at_call 43; go_call (within_no _ _ _ _) as e w' ⟨rfl, rfl⟩))
        refine bodyPost_ret (v := .tuple #[.agg #[.int .i64 0, .slice none 0 0], .int .i64 4]) ?_ rfl ⟨.inr ⟨HF.out, rfl⟩, by go_grown⟩
        have z0 := RB.out.s0
        have z1 := RB.out.s1
        simp [results, Try.results31, go_sem, z0, z1, hsz]
    · have hall : (l.take k).all (fit size) = true := hg.out
      rw [List.take_of_length_le (by omega)] at hall
      have HF : Hid (ofG size l = 0) := by
        show _ = _
        unfold ofG
        rw [if_pos hall]
      have HJ := hid (fun W (hb : Below w.heap.size w W) => join_anyK size a cap l W (HR.out.below hb (Nat.le_refl _)) (by omega) h2 (fun x hx => (fit_iff size x).1 (List.all_eq_true.1 hall x hx)))
      clear hall rb
      go_wp2_with fail
      refine (HJ.out _ RB.out.be).mono ?_
      rintro e w2 ⟨⟨v, r, rfl, hO, hG, hM, hL⟩, hb2⟩
      obtain ⟨a2, c2, rfl, _⟩ := hO.sps
      have RB2 := hid (RB.out.step (hb2.mono RB.out.sz) (Nat.le_refl _))
      have HO := hid (hO.base (show w.heap.size + 1 ≤ wr.heap.size from hsz))
      have HG := hid hG
      have HM := hid hM
      have hrl : r.length ≤ 200 := by omega
      clear hO hG hM hb2
      go_wp2_with fail
      refine (tell_ok (.slice a2 r.length c2) _ _ _ size _ hrl).mono ?_
      rintro e w3 ⟨rfl, hb3⟩
      have RB3 := hid (RB2.out.step (hb3.mono RB2.out.sz) (Nat.le_refl _))
      have HO3 := hid (HO.out.below hb3 (Nat.le_refl _))
      clear hb3
      obtain ⟨x1, x2, x3, x4, x5, x6⟩ := RB3.out
      have z0 := RB3.out.s0
      have z1 := RB3.out.s1
      go_wp2_with fail
      refine bodyPost_ret (v := .tuple #[.agg #[.int .i64 size, .slice a2 r.length c2], .int .i64 0]) (by simp [results, Try.results31, go_sem, z0, z1]) rfl ⟨.inl ⟨HF.out, _, r, rfl, OwnK.base (OwnK.setCell_below (OwnK.setCell_below HO3.out (by simp) _) (by simp) _) (by omega), HG.out, HM.out, hrl⟩, by go_grown⟩
end SpanC
end Go.Proofs.Ytepnlfnnancnfaa
