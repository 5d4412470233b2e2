/- slices.Clone and slices.Equal of as many texts as there may be (gen_prty.py writes this text). -/
import Derived.Test.YtllfpbngfkimlaaPrtJ
import Derived.Test.YtllfpbngfkimlaaPrtU
set_option linter.unusedVariables false
namespace Go.Proofs.Ytllfpbngfkimlaa
open Go.RowKit
open Go.Shelf Go.Sort
open SpanM SpanC IntsC
namespace PortT
open PrtM PortC
theorem wpList_appBig {ops : Array Oper} {rest : List Oper} {o : Oper} {a : Act} {Q : Exit → Act → World → Prop} {w : World} (hgd : o.guard = none) (s x : Operand)
    (ho : o.op = .call { callee := .builtin .append, args := #[s, x], argTypes := #[34, 34] })
    (B : Nat) (v : Value) (m : List ByteArray) (sa : Option Addr) (cap : Nat) (hs : a.eval s = v) (hown : OwnS w B v []) (hx : a.eval x = .slice sa m.length cap) (hm : RdS w sa m) (hn : sa = none → m.length = 0 ∧ cap = 0)
    (hl : m.length * 16 ≤ 140737488355328) (hB : B ≤ w.heap.size)
    (h : ∀ v' w', OwnS w' B v' m → w.grownBy w' v.ownBlock → wpList Try.prog ops Q rest (a.put o.dst v') w') : wpList Try.prog ops Q (o :: rest) a w := by
  obtain ⟨i0, hi, hz0, hz1, hz2⟩ := info_parts infoStr
  cases sa with
  | none =>
    obtain ⟨h1, h2⟩ := hn rfl
    have h3 : m = [] := List.length_eq_zero_iff.1 h1
    subst h3 h2
    refine wpList_append_own_none hgd s x _ ho B _ i0 1 Try.underlying34 hi v 0 (ES.flat []) hs hown hx ?_
    exact h v w hown (grown_refl w _)
  | some ad =>
    by_cases h0 : m = []
    · subst h0
      refine wpList_append_own _ hgd s x _ ho B _ i0 _ 1 _ Try.underlying34 hi hz0 hz1 hz2 rfl (by decide) v 0 (ES.flat []) hs hown ad 0 cap [] hx (by simp) (fun j u hj => by simp at hj) (fun u hu => by simp at hu) (by unfold maxLen; omega) (by omega) hB ?_
      intro v' w' q1 q2 _
      exact h v' w' q1 q2
    · have hp : 0 < m.length := List.length_pos_iff.2 h0
      obtain ⟨b, off, e1, _⟩ := RowG.Rd.at hm 0 hp
      simp only [Option.some.injEq] at e1
      subst e1
      refine wpList_append_own _ hgd s x _ ho B _ i0 _ 1 _ Try.underlying34 hi hz0 hz1 hz2 rfl (by decide) v 0 (ES.flat []) hs hown _ m.length cap (ES.flat m) hx (RowG.flat_length ES m) (Rd.news hm (by decide)) (RowG.flat_one ES m) (by unfold maxLen; omega) (by omega) hB ?_
      intro v' w' q1 q2 _
      refine h v' w' ?_ q2
      show w'.ownsRow B _ 1 v' m.length (ES.flat m)
      simpa [RowG.Enc.flat] using q1
set_option maxRecDepth 20000 in
theorem cloneS_big (a : Option Addr) (c : Nat) (l : List ByteArray) (w : World) (hr : RdS w a l) (hn : a = none → l.length = 0 ∧ c = 0) (hl : l.length * 16 ≤ 140737488355328) :
    Calls Try.prog 25 #[.slice a l.length c] w fun e w' => (∃ v, e = .returned v ∧ OwnS w' w.heap.size v l) ∧ Below w.heap.size w w' := by
  have q := eqNilS
  cases a with
  | none =>
    obtain ⟨h1, h2⟩ := hn rfl
    have h3 : l = [] := List.length_eq_zero_iff.1 h1
    subst h3 h2
    clear hr hn hl h1
    go_enter Try.func25, Try.ntmps25
    go_wp2_with fail
    go_ret
    exact ⟨⟨_, rfl, RowG.Own.nil _ _ _ _⟩, Below.refl _ _⟩
  | some ad =>
    have HR := hid hr
    have HN := hid hn
    have HL := hid hl
    clear hr hn hl
    go_enter Try.func25, Try.ntmps25
    go_wp2_with (at_builtin; refine wpList_appBig rfl _ _ rfl w.heap.size (.slice (some ⟨w.heap.size, 0, none⟩) 0 0) l (some ad) c rfl (World.ownsRow_made w #[] 0 (Nat.le_refl _) (Nat.zero_le _) rfl) rfl (HR.out.below ((Below.refl _ w).alloc (Nat.le_refl _) _) (Nat.le_refl _)) HN.out HL.out (by rw [World.size_alloc]; omega) ?_; intro v' w' ho hg; have HO := hid ho; have HG := hid hg; clear ho hg)
    obtain ⟨a9, c9, rfl⟩ := RowG.Own.slice HO.out
    go_wp2_with fail
    go_ret
    exact ⟨⟨_, rfl, HO.out⟩, Below.grown ((Below.refl _ w).alloc (Nat.le_refl _) _) HG.out (by rw [World.size_alloc]; omega) (by intro k hk; simp [Value.ownBlock] at hk; omega)⟩
set_option maxRecDepth 20000 in
set_option maxHeartbeats 1600000 in
theorem eqS_big (a b : Option Addr) (n ca cb : Nat) (la lb : List ByteArray) (w : World) (ha : RdS w a la) (hb : RdS w b lb) (hn : n = la.length) (hm : n = lb.length) (hl : n ≤ 9223372036854775807) :
    Calls Try.prog 23 #[.slice a n ca, .slice b n cb] w fun e w' => e = .returned (.bool (decide (la = lb))) ∧ Below w.heap.size w w' := by
  have hne : ((n : Int) != (n : Int)) = false := by simp
  have HA := hid ha
  have HB := hid hb
  have HN := hid hn
  have HM := hid hm
  clear ha hb hn hm
  go_enter Try.func23, Try.ntmps23
  go_wp2_with fail
  go_loopw [13] (fun vk wr => ∃ k : Nat, k ≤ n ∧ vk = .int .i64 k ∧ Hid (la.take k = lb.take k) ∧ Below w.heap.size w wr) (fun vk _ => n - (intOf vk).toNat)
  case atStart => exact ⟨0, by omega, rfl, (by rfl : la.take 0 = lb.take 0), Below.refl _ _⟩
  case round =>
    obtain ⟨k, hk, rfl, HK, hbel⟩ := hrel
    have HBL := hid hbel
    by_cases hlt : k < n
    · obtain ⟨p, off, hpa, a0⟩ := RdS.get (HA.out.below hbel (Nat.le_refl _)) k (by have := HN.out; omega)
      obtain ⟨q, off2, hqb, b0⟩ := RdS.get (HB.out.below hbel (Nat.le_refl _)) k (by have := HM.out; omega)
      subst hpa
      subst hqb
      have hta := snocD la e0 k (by have := HN.out; omega)
      have htb := snocD lb e0 k (by have := HM.out; omega)
      generalize la.getD k e0 = x at a0 hta
      generalize lb.getD k e0 = y at b0 htb
      have HTA := hid hta
      have HTB := hid htb
      have i1 : (k : Int) < (n : Int) := by omega
      clear hta htb hbel
      by_cases he : x = y
      · subst he
        go_wp2_with fail
        go_quiet (fail)
        go_wp2_with fail
        go_roundw
        case rel => exact ⟨k + 1, by omega, by go_num, (by rw [HTA.out, HTB.out, HK.out] : la.take (k + 1) = lb.take (k + 1)), below_drewN HBL.out _⟩
        case measure => simp [intOf]; omega
      · have hd := str_ne he
        have HE := hid (fun h : x = y => he h)
        clear he
        go_wp2_with fail
        go_quiet (fail)
        go_wp2_with fail
        go_ret
        refine ⟨?_, below_drewN HBL.out _⟩
        have : la ≠ lb := fun e => by
          have h1 := HTA.out
          rw [e, HTB.out] at h1
          simp at h1
          exact HE.out h1.symm
        rw [decide_eq_false this]; rfl
    · have HE : Hid (la = lb) := by
        have h := HK.out
        rw [List.take_of_length_le (by have := HN.out; omega), List.take_of_length_le (by have := HM.out; omega)] at h
        exact h
      go_wp2_with fail
      go_ret
      exact ⟨by rw [decide_eq_true HE.out]; rfl, HBL.out⟩
end PortT
end Go.Proofs.Ytllfpbngfkimlaa
