/- Contracts of package play: within, checkFirst, checkUntil. -/
import Derived.Test.YtgplaoojimpbaaaRowG
import Derived.Test.YtgplaoojimpbaaaTskC
import Derived.Test.YtgplaoojimpbaaaSupI
import Derived.Test.YtgplaoojimpbaaaPlyM
import Derived.Deep.RegionHeld3
import Derived.Deep.AppendLies
set_option linter.unusedVariables false
namespace Go.Proofs.Ytgplaoojimpbaaa
open Go.RowKit hiding tok
open SpanM SpanC TaskM PlayM
open RowsO hiding Tk
namespace PlayC
open TaskC (tk_snoc tk_mem)
open NumC (Row)
theorem Row.below {w w' : World} {a : Option Addr} {l : List Int} {B : Nat} (h : Row w a l) (hb : Below B w w') (hB : w.heap.size ≤ B) : Row w' a l := by
  rcases h with rfl | ⟨b, off, rfl, h⟩
  · exact .inl rfl
  · refine .inr ⟨b, off, rfl, fun i hi => ?_⟩
    have h1 := h i hi
    have hlt := World.block_lt_of_cell? w _ h1
    exact (hb.cell (by simpa using Nat.lt_of_lt_of_le hlt hB)).trans h1
theorem Row.at {w : World} {a : Option Addr} {l : List Int} (h : Row w a l) (k : Nat) (hk : k < l.length) : ∃ b off, a = some ⟨b, off, none⟩ ∧ b < w.heap.size ∧ w.cell? ⟨b, off + k, none⟩ = some (.int .i64 (l.getD k 0)) := by
  rcases h with rfl | ⟨b, off, rfl, h⟩
  · simp at hk
  · exact ⟨b, off, rfl, World.block_lt_of_cell? w _ (h k hk), h k hk⟩
theorem pwithin_yes (x lo hi : Int) (w : World) (h1 : lo ≤ x) (h2 : x ≤ hi) :
    Calls Try.prog 52 #[.int .i64 x, .int .i64 lo, .int .i64 hi] w fun e w' => e = .returned (.bool true) ∧ w' = w := by
  go_enter Try.func52, Try.ntmps52
  go_wp2
  go_ret
  exact ⟨rfl, rfl⟩
theorem pwithin_no (x lo hi : Int) (w : World) (h : ¬ (lo ≤ x ∧ x ≤ hi)) :
    Calls Try.prog 52 #[.int .i64 x, .int .i64 lo, .int .i64 hi] w fun e w' => e = .returned (.bool false) ∧ w' = w := by
  by_cases h1 : lo ≤ x
  · have h2 : ¬ x ≤ hi := fun k => h ⟨h1, k⟩
    clear h
    go_enter Try.func52, Try.ntmps52
    go_wp2
    go_ret
    exact ⟨rfl, rfl⟩
  · clear h
    go_enter Try.func52, Try.ntmps52
    go_wp2
    go_ret
    exact ⟨rfl, rfl⟩
theorem in_snoc (l : List Int) (k : Nat) (h : k < l.length) : l.take (k + 1) = l.take k ++ [l.getD k 0] := by
  rw [List.take_succ_eq_append_getElem h]; simp [List.getD, h]
theorem in_mem {l : List Int} {k : Nat} (h : k < l.length) : l.getD k 0 ∈ l := by simp [List.getD, h]
theorem first_len (a b : Option Addr) (n m cap cap' : Nat) (w : World) (h : m ≠ n) :
    Calls Try.prog 31 #[.slice a n cap, .slice b m cap'] w fun e w' => e = .returned (.int .i64 4) ∧ Below w.heap.size w w' := by
  have hn : ((m : Int) != (n : Int)) = true := by simp; omega
  go_enter Try.func31, Try.ntmps31
  go_wp2_with fail
  go_ret
  exact ⟨rfl, Below.refl _ _⟩
theorem first_list (a b : Option Addr) (cap cap' : Nat) (f : List Int) (w : World) (hr : Row w b f) (hl : f.length ≤ 16) :
    Calls Try.prog 31 #[.slice a f.length cap, .slice b f.length cap'] w fun e w' => e = .returned (.int .i64 (fstG f)) ∧ Below w.heap.size w w' := by
  have hn : ((f.length : Int) != (f.length : Int)) = false := by simp
  have HR := hid hr
  clear hr
  go_enter Try.func31, Try.ntmps31
  go_wp2_with fail
  go_loop [14] (fun v10 => ∃ k : Nat, k ≤ f.length ∧ v10 = .int .i64 k ∧ Hid (∀ x ∈ f.take k, fok x)) (fun v10 => f.length - (intOf v10).toNat)
  case atStart => exact ⟨0, by omega, rfl, by intro x hx; simp at hx⟩
  case round =>
    obtain ⟨k, hk, rfl, hA⟩ := hrel
    by_cases hlt : k < f.length
    · obtain ⟨b, off, rfl, hbw, d1⟩ := Row.at HR.out k hlt
      have hd := in_snoc f k hlt
      have hmem := in_mem hlt
      generalize f.getD k 0 = z at d1 hd hmem
      have Hd := hid hd
      have Hm := hid hmem
      clear hd hmem
      by_cases hP : fok z
      · have HA : Hid (∀ x ∈ f.take (k + 1), fok x) := by
          show ∀ x ∈ _, _
          rw [Hd.out]
          intro x hx
          rcases List.mem_append.1 hx with hx | hx
          · exact hA.out x hx
          · simp at hx; subst hx; exact hP
        obtain ⟨p1, p2⟩ := hP
        go_wp2_with (first | (go_at_call 52; go_call (pwithin_yes _ _ _ _) as e w' ⟨rfl, rfl⟩))
        go_round
        case rel => exact ⟨k + 1, by omega, by go_num, HA⟩
        case measure => simp [intOf]; omega
      · have HF : Hid (fstG f = 4) := by
          show _ = _
          unfold fstG
          rw [if_neg]
          intro h
          exact hP (h _ Hm.out)
        unfold fok at hP
        go_wp2_with (first | (go_at_call 52; go_call (pwithin_no _ _ _ _) as e w' ⟨rfl, rfl⟩))
        go_ret
        exact ⟨SpanC.ret_int HF.out.symm, Below.refl _ _⟩
    · have HF : Hid (fstG f = 0) := by
        show _ = _
        unfold fstG
        rw [if_pos]
        have := hA.out
        rwa [List.take_of_length_le (by omega)] at this
      go_wp2_with fail
      go_ret
      exact ⟨SpanC.ret_int HF.out.symm, Below.refl _ _⟩
theorem first_any (a b : Option Addr) (cap cap' : Nat) (n : Nat) (f : List Int) (w : World) (hr : Row w b f) (hl : n ≤ 16) :
    Calls Try.prog 31 #[.slice a n cap, .slice b f.length cap'] w fun e w' => e = .returned (.int .i64 (fstE n f)) ∧ Below w.heap.size w w' := by
  unfold fstE
  split
  · rename_i h; subst h; exact first_list a b cap cap' f w hr hl
  · exact first_len a b n _ cap cap' w ‹_›
theorem until_arg (a b : Option Addr) (n m cap cap' : Nat) (T : Int) (w : World) (h : ¬ (0 ≤ T ∧ T ≤ 20000)) :
    Calls Try.prog 32 #[.slice a n cap, .slice b m cap', .int .i64 T] w fun e w' => e = .returned (.int .i64 1) ∧ Below w.heap.size w w' := by
  go_enter Try.func32, Try.ntmps32
  go_wp2_with (first | (go_at_call 52; go_call (pwithin_no _ _ _ _) as e w' ⟨rfl, rfl⟩))
  go_ret
  exact ⟨rfl, Below.refl _ _⟩
set_option maxRecDepth 20000 in
set_option maxHeartbeats 800000 in
theorem until_list (P : Pl) (hP : P.Ok) (a b : Option Addr) (cap cap' : Nat) (T : Int) (w : World) (hr : Tks w a P.l) (hf : Row w b P.f) (hl : P.l.length ≤ 16) (hfk : ∀ x ∈ P.f, fok x) (h1 : 0 ≤ T) (h2 : T ≤ 20000) :
    Calls Try.prog 32 #[.slice a P.l.length cap, .slice b P.f.length cap', .int .i64 T] w fun e w' => e = .returned (.int .i64 (P.untG T)) ∧ Below w.heap.size w w' := by
  have HR := hid hr
  have HF := hid hf
  have HP := hid hP
  have HK := hid hfk
  have hlen := hP.len
  have hbd := hid (Pl.jn_bd hP T)
  clear hr hf hP hfk
  go_enter Try.func32, Try.ntmps32
  go_wp2_with (first | (go_at_call 52; go_call (pwithin_yes _ _ _ _) as e w' ⟨rfl, hw⟩; replace hw := hw.symm; subst hw))
  go_loopw [7, 15] (fun v7 v15 wr => ∃ (k : Nat) (c : Int), k ≤ P.l.length ∧ v7 = .int .i64 c ∧ v15 = .int .i64 k ∧ Hid (c = ((P.jn T k).length : Int)) ∧ 0 ≤ c ∧ c ≤ k * 20000 ∧ Below w.heap.size w wr) (fun _ v15 _ => P.l.length - (intOf v15).toNat)
  case atStart => exact ⟨0, 0, by omega, rfl, rfl, rfl, by omega, by omega, Below.refl _ _⟩
  case round =>
    obtain ⟨k, c, hk, rfl, rfl, hA, c0, c1, hb⟩ := hrel
    have HB := hid hb
    have hsz := hb.size
    by_cases hlt : k < P.l.length
    · obtain ⟨p, off, rfl, hbw, d1, d2, d3⟩ := (HR.out.below hb (Nat.le_refl _)).at k hlt
      obtain ⟨q, off2, rfl, hbw2, d4⟩ := Row.at (Row.below HF.out hb (Nat.le_refl _)) k (by omega)
      have hz : zTk = (0, 0, 0) := rfl
      have ht := HP.out.at hlt
      have hce := Pl.cnt_eq HP.out hlt T
      have hcl := Pl.cnt_le HP.out hlt T
      have hfm := HK.out _ (in_mem (show k < P.f.length by omega))
      rw [Pl.tk_at] at ht hce
      rw [hz] at d1 d2 d3
      clear hb
      generalize P.l.getD k (0, 0, 0) = z at d1 d2 d3 ht hce
      obtain ⟨m, e, d⟩ := z
      generalize P.f.getD k 0 = f at d4 hfm hce
      obtain ⟨p1, p2, p3, p4, p5, p6⟩ := ht
      obtain ⟨f1, f2⟩ := hfm
      simp only at d1 d2 d3 p1 p2 p3 p4 p5 p6 hce
      generalize hJ : P.cnt k T = J at hce hcl
      have HD : Hid (c + (J : Int) = ((P.jn T (k + 1)).length : Int)) := by
        show _ = _
        rw [Pl.jn_len, hJ, hA.out]; omega
      have hJb : (J : Int) ≤ 20000 := by omega
      have hJ0 : (0 : Int) ≤ J := by omega
      generalize (J : Int) = q1 at *
      have hmx : max 0 (T - f) ≤ 20000 ∧ 0 ≤ max 0 (T - f) := by omega
      obtain ⟨x1, x2⟩ := id hmx
      have x3 : 0 ≤ max 0 (T - f) + e - 1 := by omega
      have ez : (e == 0) = false := by simp; omega
      have ez2 : e ≠ 0 := by omega
      have hce2 := hce.symm
      clear hJ hce hz hcl hlen
      have HC1 := hid c1
      have c2 : c ≤ 320000 := by omega
      have HX := hid hmx
      clear c1 hmx
      have hs1 : IntKind.i64.wrap (T - f) = T - f := by rw [IntKind.wrap_i64]; omega
      go_wp2_with fail
      go_quiet (fail)
      go_wp2_with fail
      go_roundw
      case rel => exact ⟨k + 1, _, by omega, rfl, by go_num, by first | exact HD | (show _ = _; have := HD.out; omega), by omega, by have := HC1.out; omega, below_drewN (HB.out.alloc hsz _) _⟩
      case measure => simp [intOf]; omega
    · obtain rfl : k = P.l.length := by omega
      rw [Pl.jn_all] at hA
      clear hb
      by_cases hm : 2000 < c
      · have HU : Hid (P.untG T = 2) := by
          show _ = _
          unfold Pl.untG
          rw [if_pos]; have := hA.out; omega
        go_wp2_with fail
        go_ret
        exact ⟨SpanC.ret_int HU.out.symm, HB.out⟩
      · have HU : Hid (P.untG T = 0) := by
          show _ = _
          unfold Pl.untG
          rw [if_neg]; have := hA.out; omega
        go_wp2_with fail
        go_ret
        exact ⟨SpanC.ret_int HU.out.symm, HB.out⟩
theorem until_any (P : Pl) (hP : P.Ok) (a b : Option Addr) (cap cap' : Nat) (T : Int) (w : World) (hr : Tks w a P.l) (hf : Row w b P.f) (hl : P.l.length ≤ 16) (hfk : ∀ x ∈ P.f, fok x) :
    Calls Try.prog 32 #[.slice a P.l.length cap, .slice b P.f.length cap', .int .i64 T] w fun e w' => e = .returned (.int .i64 (P.untE T)) ∧ Below w.heap.size w w' := by
  unfold Pl.untE
  split
  · rename_i h; exact until_list P hP a b cap cap' T w hr hf hl hfk h.1 h.2
  · exact until_arg a b _ _ cap cap' T w ‹_›
end PlayC
end Go.Proofs.Ytgplaoojimpbaaa
