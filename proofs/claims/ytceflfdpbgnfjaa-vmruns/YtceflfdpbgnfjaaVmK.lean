/- Package vm: do whole, step. -/
import Derived.Test.YtceflfdpbgnfjaaVmJ
import Derived.Test.YtceflfdpbgnfjaaVmH
import Derived.Test.YtceflfdpbgnfjaaVmGadd
import Derived.Test.YtceflfdpbgnfjaaVmGsub
import Derived.Test.YtceflfdpbgnfjaaVmGmul
set_option linter.unusedVariables false
namespace Go.Proofs.Ytceflfdpbgnfjaa
open Go.RowKit
open Go.Shelf Go.Sort
open SpanM hiding good
open SpanC IntsC
open RowsO hiding Em
namespace VmC
open VmP VmM
open NumC (Row)
variable {w0 W : World} {x : Inp} {bx g cap : Nat} {s : St} {took : Nat} {ov : Value} {out : List Em}
/-- do_out's contract, which VmI proves -/
def OutC : Prop := ∀ (w0 W : World) (x : Inp) (bx g cap : Nat) (s : St) (took : Nat) (ov : Value) (out : List Em) (h : Mc w0 W x bx g cap s took ov out) (a : Nat) (b : Int) (ha : a < 8) (hl : out.length ≤ 5000),
    Calls Try.prog 38 #[pM bx, vIn 10 a b] W fun e W' => e = .returned (.tuple #[]) ∧ ∃ ov', Mc w0 W' x bx g cap s took ov' (out ++ [(b, s.regs.getD a 0)])
/-- what a step leaves, in memory -/
def McR (w0 W : World) (x : Inp) (bx g cap : Nat) (r : Ran St Em) (took : Nat) (out : List Em) : Prop := ∃ ov, Mc w0 W x bx g cap r.s (took + r.took) ov (out ++ r.out)
/-- do, of an instruction that is no jump and no halt: the registers, and what was taken and let out -/
structure DoR (s s' : St) (xi : Int) (y : In) (t : Nat) (o : List Em) : Prop where
  pc : s'.pc = s.pc
  h : s'.halts = s.halts
  f : s'.fault = s.fault
  regs : s'.regs = if y.1 = 9 then s.regs.set y.2.1.toNat xi else put s y
  t : t = if y.1 = 9 then 1 else 0
  o : o = if y.1 = 10 then [(y.2.2, reg s y.2.1)] else []
theorem do_any (HO : OutC) (hx : x.At w0) (hs : Ok x.p s) (h : Mc w0 W x bx g cap s took ov out) (c : Int) (a : Nat) (b n : Int) (hg : good n (c, (a : Int), b) = true) (h6 : c ≠ 6) (h11 : c ≠ 11) (ht : c = 9 → took < x.i.length) (hl : out.length ≤ 5000) :
    Calls Try.prog 38 #[pM bx, vIn c a b] W fun e W' => e = .returned (.tuple #[]) ∧ ∃ s' t o ov', DoR s s' (x.i.getD took 0) (c, (a : Int), b) t o ∧ Mc w0 W' x bx g cap s' (took + t) ov' (out ++ o) := by
  obtain ⟨hc, ha, _, _, hb, _⟩ := good_cases hg
  simp only at hc ha hb
  have ha8 : a < 8 := by have := ha h6 h11; omega
  have hput : ∀ v, val s (c, (a : Int), b) = v → 1 ≤ c ∧ c ≤ 5 → put s (c, (a : Int), b) = s.regs.set a v := fun v hv hc => by
    unfold put; rw [if_pos hc, hv]; rfl
  have fin : ∀ v, val s (c, (a : Int), b) = v → 1 ≤ c ∧ c ≤ 5 → ∀ (e : Ending) (W' : World), (e = .returned (.tuple #[]) ∧ Mc w0 W' x bx g cap { s with regs := s.regs.set a v } took ov out) → e = .returned (.tuple #[]) ∧ ∃ s' t o ov', DoR s s' (x.i.getD took 0) (c, (a : Int), b) t o ∧ Mc w0 W' x bx g cap s' (took + t) ov' (out ++ o) := fun v hv hc e W' q =>
    ⟨q.1, { s with regs := s.regs.set a v }, 0, [], ov, ⟨rfl, rfl, rfl, by rw [if_neg (show ¬ c = 9 by omega), hput v hv hc], by rw [if_neg (show ¬ c = 9 by omega)], by rw [if_neg (show ¬ c = 10 by omega)]⟩, by rw [List.append_nil]; exact q.2⟩
  have hbn : 2 ≤ c → c ≤ 5 → ∃ k : Nat, b = k ∧ k < 8 := fun h1 h2 => by
    have := hb h1 h2
    exact ⟨b.toNat, by omega, by omega⟩
  by_cases c1 : c = 1
  · subst c1
    exact (do_set h a b ha8).mono (fin _ rfl (by omega))
  · by_cases c2 : c = 2
    · subst c2
      obtain ⟨k, rfl, hk⟩ := hbn (by omega) (by omega)
      exact (do_copy h a k ha8 hk).mono (fin _ rfl (by omega))
    · by_cases c3 : c = 3
      · subst c3
        obtain ⟨k, rfl, hk⟩ := hbn (by omega) (by omega)
        exact (do_add hs h a k ha8 hk).mono (fin _ rfl (by omega))
      · by_cases c4 : c = 4
        · subst c4
          obtain ⟨k, rfl, hk⟩ := hbn (by omega) (by omega)
          exact (do_sub hs h a k ha8 hk).mono (fin _ rfl (by omega))
        · by_cases c5 : c = 5
          · subst c5
            obtain ⟨k, rfl, hk⟩ := hbn (by omega) (by omega)
            exact (do_mul hs h a k ha8 hk).mono (fin _ rfl (by omega))
          · have hno : ¬ (1 ≤ c ∧ c ≤ 5) := by omega
            have hpn : put s (c, (a : Int), b) = s.regs := by unfold put; rw [if_neg hno]
            by_cases c9 : c = 9
            · subst c9
              exact (do_in hx h a b ha8 (ht rfl)).mono fun e W' q => ⟨q.1, { s with regs := s.regs.set a (x.i.getD took 0) }, 1, [], ov, ⟨rfl, rfl, rfl, rfl, rfl, rfl⟩, by rw [List.append_nil]; exact q.2⟩
            · by_cases c10 : c = 10
              · subst c10
                refine (HO _ _ _ _ _ _ _ _ _ _ h a b ha8 hl).mono fun e W' q => ⟨q.1, ?_⟩
                obtain ⟨ov', q⟩ := q.2
                exact ⟨s, 0, [(b, s.regs.getD a 0)], ov', ⟨rfl, rfl, rfl, by rw [if_neg (show ¬ (10 : Int) = 9 by decide), hpn], rfl, rfl⟩, q⟩
              · have c78 : c = 7 ∨ c = 8 := by clear hbn fin hput ha hb hno hpn; omega
                exact (do_jump h c a b c78).mono fun e W' q => ⟨q.1, s, 0, [], ov, ⟨rfl, rfl, rfl, by rw [if_neg c9, hpn], by rw [if_neg c9], by rw [if_neg c10]⟩, by rw [List.append_nil]; exact q.2⟩
theorem code_at {p : List In} {w0 W : World} {a : Option Addr} (h : Iss w0 a p) (hb : Below w0.heap.size w0 W) {k : Nat} (hk : k < p.length) : ∃ b off, a = some ⟨b, off, none⟩ ∧ b < w0.heap.size ∧ W.cell? ⟨b, off + k * 3, none⟩ = some (.int .i64 (p.getD k zIn).1) ∧ W.cell? ⟨b, off + k * 3 + 1, none⟩ = some (.int .i64 (p.getD k zIn).2.1) ∧ W.cell? ⟨b, off + k * 3 + 2, none⟩ = some (.int .i64 (p.getD k zIn).2.2) := by
  obtain ⟨b, off, e, hlt, _⟩ := h.at k hk
  obtain ⟨b', off', e', _, d0, d1, d2⟩ := (h.below hb (Nat.le_refl _)).at k hk
  rw [e] at e'
  simp only [Option.some.injEq, Addr.mk.injEq, and_true] at e'
  obtain ⟨rfl, rfl⟩ := e'
  exact ⟨b, off, e, hlt, d0, d1, d2⟩
set_option maxRecDepth 20000 in
set_option maxHeartbeats 800000 in
theorem step_behind (h : Mc w0 W x bx g cap s took ov out) (hpc : s.pc = x.p.length) :
    Calls Try.prog 27 #[pM bx] W fun e W' => e = .returned (.tuple #[]) ∧ Mc w0 W' x bx g cap { s with fault := true } took ov out := by
  have HB := hid (isBehind_any h)
  rw [decide_eq_true hpc] at HB
  have c3 := h.c 3
  have f3 := froz_box h.box 3
  simp at c3
  have hlt := h.lt
  have HM := hid h
  clear h hpc
  go_enter Try.func27, Try.ntmps27
  go_wp2_with (go_at_call 36; refine HB.out.mono ?_; rintro e w1 ⟨rfl, m1, rfl⟩)
  go_returns
  refine ⟨rfl, ?_⟩
  exact (HM.out.drewN m1).setBox 3 (.bool true) { s with fault := true } took ov rfl (HM.out.drewN m1).out (by simp)
set_option maxRecDepth 20000 in
set_option maxHeartbeats 1600000 in
theorem step_halt (hx : x.At w0) (hs : Ok x.p s) (h : Mc w0 W x bx g cap s took ov out) (hpc : s.pc ≠ x.p.length) (h11 : (x.p.getD s.pc.toNat zIn).1 = 11) :
    Calls Try.prog 27 #[pM bx] W fun e W' => e = .returned (.tuple #[]) ∧ Mc w0 W' x bx g cap { s with halts := true } took ov out := by
  have HB := hid (isBehind_any h)
  rw [decide_eq_false hpc] at HB
  have hin := in_p hs hpc
  obtain ⟨kp, hkp⟩ : ∃ kp : Nat, kp = s.pc.toNat := ⟨_, rfl⟩
  rw [← hkp] at hin h11
  obtain ⟨hk1, hk2⟩ := hin
  have HM := hid h
  have HX := hid hx
  have HK := hid hk2
  have i1 : (kp : Int) < (x.p.length : Int) := by omega
  have HL := hid hk1
  have H11 := hid h11
  clear h hpc hs hx hk2 hkp hk1 h11
  go_enter Try.func27, Try.ntmps27
  go_wp2_with (go_at_call 36; refine HB.out.mono ?_; rintro e w1 ⟨rfl, m1, rfl⟩)
  have HM1 := hid (HM.out.drewN m1)
  generalize W.drewN m1 = W1 at *
  obtain ⟨b, off, hpa, hbl, d0, d1, d2⟩ := code_at HX.out.p HM1.out.bel HL.out
  rw [H11.out] at d0
  have c0 := HM1.out.c 0
  have c2 := HM1.out.c 2
  have c4 := HM1.out.c 4
  have f2 := froz_box HM1.out.box 2
  simp at c0 c2 c4
  rw [hpa] at c4
  rw [← HK.out] at c0
  have hlt := HM1.out.lt
  have hbw : b < W1.heap.size := by have := HM1.out.bel.size; omega
  generalize (x.p.getD kp zIn).2.1 = ia at *
  generalize (x.p.getD kp zIn).2.2 = ib at *
  clear hpa
  go_region
  all_goals go_wp2_with fail
  all_goals go_returns
  refine ⟨rfl, ?_⟩
  exact ((HM1.out.setBox 2 (.bool true) { s with halts := true } took ov rfl HM1.out.out (by simp)).alloc _).drew
set_option maxRecDepth 20000 in
set_option maxHeartbeats 1600000 in
theorem step_jump (hx : x.At w0) (hs : Ok x.p s) (h : Mc w0 W x bx g cap s took ov out) (hpc : s.pc ≠ x.p.length) (h11 : (x.p.getD s.pc.toNat zIn).1 ≠ 11) (hg : good x.p.length (x.p.getD s.pc.toNat zIn) = true) (hj : jmp s (x.p.getD s.pc.toNat zIn) = true) :
    Calls Try.prog 27 #[pM bx] W fun e W' => e = .returned (.tuple #[]) ∧ Mc w0 W' x bx g cap { s with pc := (x.p.getD s.pc.toNat zIn).2.2 } took ov out := by
  have HB := hid (isBehind_any h)
  rw [decide_eq_false hpc] at HB
  have hin := in_p hs hpc
  obtain ⟨kp, hkp⟩ : ∃ kp : Nat, kp = s.pc.toNat := ⟨_, rfl⟩
  rw [← hkp] at hin h11 hg hj ⊢
  obtain ⟨hk1, hk2⟩ := hin
  obtain ⟨y, hy⟩ : ∃ y, y = x.p.getD kp zIn := ⟨_, rfl⟩
  rw [← hy] at h11 hg hj ⊢
  obtain ⟨cd, ya, yb⟩ := y
  simp only at h11 ⊢
  have hya : 0 ≤ ya ∧ ya ≤ 7 := by
    have q := good_cases hg
    simp only at q
    by_cases q6 : cd = 6
    · have := q.2.2.1 (.inl q6); omega
    · exact q.2.1 q6 h11
  obtain ⟨ka, hka⟩ : ∃ ka : Nat, ya = ka := ⟨ya.toNat, by omega⟩
  subst hka
  have hka8 : ka < 8 := by omega
  have n11 : (cd == 11) = false := by simp only [beq_eq_false_iff_ne]; exact h11
  have HY := hid hy
  have HM := hid h
  have HX := hid hx
  have HK := hid hk2
  have HS := hid hs
  have i1 : (kp : Int) < (x.p.length : Int) := by omega
  have HL := hid hk1
  have H11 := hid h11
  have HG := hid hg
  have HJ := hid hj
  clear h hpc hs hx hk2 hkp hk1 h11 hg hj hya hy
  go_enter Try.func27, Try.ntmps27
  go_wp2_with (go_at_call 36; refine HB.out.mono ?_; rintro e w1 ⟨rfl, m1, rfl⟩)
  have HM1 := hid (HM.out.drewN m1)
  generalize W.drewN m1 = W1 at *
  obtain ⟨b, off, hpa, hbl, d0, d1, d2⟩ := code_at HX.out.p HM1.out.bel HL.out
  rw [← HY.out] at d0 d1 d2
  simp only at d0 d1 d2
  have c0 := HM1.out.c 0
  have c4 := HM1.out.c 4
  simp at c0 c4
  rw [hpa] at c4
  rw [← HK.out] at c0
  have hlt := HM1.out.lt
  have hbw : b < W1.heap.size := by have := HM1.out.bel.size; omega
  clear hpa
  go_region
  have HA := hid ((HM1.out.alloc (.cells #[.int .i64 cd, .int .i64 ka, .int .i64 yb] 45)).drew)
  have HJC := hid (jumps_any HA.out cd ka yb hka8)
  rw [HJ.out] at HJC
  have HBX := hid (B1.start W1 #[.int .i64 cd, .int .i64 ka, .int .i64 yb] 45)
  go_wp2_with (go_at_call 37; refine HJC.out.mono ?_; rintro e w3 ⟨rfl, hb3⟩; have HM3 := hid (HA.out.below hb3 (Nat.le_refl _)); have HB3 := hid (HBX.out.step ((Below.refl _ _).drew.trans hb3)); have z0 := HB3.out.c0 0; have z1 := HB3.out.c0 1; have z2 := HB3.out.c0 2; have u0 := HM3.out.c 0; have uf := froz_box HM3.out.box 0; simp at z0 z1 z2 u0; clear hb3)
  go_returns
  refine ⟨rfl, ?_⟩
  exact HM3.out.setBox 0 (.int .i64 yb) { s with pc := yb } took ov rfl HM3.out.out (by simp)
set_option maxRecDepth 20000 in
set_option maxHeartbeats 1600000 in
theorem step_do (HO : OutC) (hx : x.At w0) (hs : Ok x.p s) (h : Mc w0 W x bx g cap s took ov out) (hpc : s.pc ≠ x.p.length) (h11 : (x.p.getD s.pc.toNat zIn).1 ≠ 11) (hg : good x.p.length (x.p.getD s.pc.toNat zIn) = true) (hj : jmp s (x.p.getD s.pc.toNat zIn) = false) (ht : (x.p.getD s.pc.toNat zIn).1 = 9 → took < x.i.length) (hl : out.length ≤ 5000) :
    Calls Try.prog 27 #[pM bx] W fun e W' => e = .returned (.tuple #[]) ∧ ∃ s' t o ov', DoR s s' (x.i.getD took 0) (x.p.getD s.pc.toNat zIn) t o ∧ Mc w0 W' x bx g cap { s' with pc := s.pc + 1 } (took + t) ov' (out ++ o) := by
  have HB := hid (isBehind_any h)
  rw [decide_eq_false hpc] at HB
  have hin := in_p hs hpc
  obtain ⟨kp, hkp⟩ : ∃ kp : Nat, kp = s.pc.toNat := ⟨_, rfl⟩
  rw [← hkp] at hin h11 hg hj ht ⊢
  obtain ⟨hk1, hk2⟩ := hin
  obtain ⟨y, hy⟩ : ∃ y, y = x.p.getD kp zIn := ⟨_, rfl⟩
  rw [← hy] at h11 hg hj ht ⊢
  obtain ⟨cd, ya, yb⟩ := y
  simp only at h11 ht ⊢
  have hya : 0 ≤ ya ∧ ya ≤ 7 := by
    have q := good_cases hg
    simp only at q
    by_cases q6 : cd = 6
    · have := q.2.2.1 (.inl q6); omega
    · exact q.2.1 q6 h11
  obtain ⟨ka, hka⟩ : ∃ ka : Nat, ya = ka := ⟨ya.toNat, by omega⟩
  subst hka
  have hka8 : ka < 8 := by omega
  have n11 : (cd == 11) = false := by simp only [beq_eq_false_iff_ne]; exact h11
  have HY := hid hy
  have HM := hid h
  have HX := hid hx
  have HK := hid hk2
  have HS := hid hs
  have i1 : (kp : Int) < (x.p.length : Int) := by omega
  have HL := hid hk1
  have H11 := hid h11
  have HG := hid hg
  have HJ := hid hj
  have h6 : cd ≠ 6 := fun e => by rw [e] at hj; simp [jmp] at hj
  have HD := hid (fun V (hV : Mc w0 V x bx g cap s took ov out) => do_any HO hx hs hV cd ka yb x.p.length hg h6 h11 ht hl)
  have hpl := hx.pl
  clear h6 ht hl
  clear h hpc hs hx hk2 hkp hk1 h11 hg hj hya hy
  go_enter Try.func27, Try.ntmps27
  go_wp2_with (go_at_call 36; refine HB.out.mono ?_; rintro e w1 ⟨rfl, m1, rfl⟩)
  have HM1 := hid (HM.out.drewN m1)
  generalize W.drewN m1 = W1 at *
  obtain ⟨b, off, hpa, hbl, d0, d1, d2⟩ := code_at HX.out.p HM1.out.bel HL.out
  rw [← HY.out] at d0 d1 d2
  simp only at d0 d1 d2
  have c0 := HM1.out.c 0
  have c4 := HM1.out.c 4
  simp at c0 c4
  rw [hpa] at c4
  rw [← HK.out] at c0
  have hlt := HM1.out.lt
  have hbw : b < W1.heap.size := by have := HM1.out.bel.size; omega
  clear hpa
  go_region
  have HA := hid ((HM1.out.alloc (.cells #[.int .i64 cd, .int .i64 ka, .int .i64 yb] 45)).drew)
  have HJC := hid (jumps_any HA.out cd ka yb hka8)
  rw [HJ.out] at HJC
  have HBX := hid (B1.start W1 #[.int .i64 cd, .int .i64 ka, .int .i64 yb] 45)
  go_wp2_with (first | (go_at_call 37; refine HJC.out.mono ?_; rintro e w3 ⟨rfl, hb3⟩; have HM3 := hid (HA.out.below hb3 (Nat.le_refl _)); have HB3 := hid (HBX.out.step ((Below.refl _ _).drew.trans hb3)); have z0 := HB3.out.c0 0; have z1 := HB3.out.c0 1; have z2 := HB3.out.c0 2; have u0 := HM3.out.c 0; have uf := froz_box HM3.out.box 0; simp at z0 z1 z2 u0; clear hb3) | (go_at_call 38; refine (HD.out _ HM3.out).mono ?_; rintro e w4 ⟨rfl, s', t, o, ov', hr, hm⟩; have HR := hid hr; have HM4 := hid hm; have v0 := HM4.out.c 0; have vf := froz_box HM4.out.box 0; simp at v0; rw [HR.out.pc, ← HK.out] at v0; clear hr hm))
  go_returns
  refine ⟨rfl, s', t, o, ov', HR.out, ?_⟩
  rw [← HK.out]
  exact HM4.out.setBox 0 (.int .i64 ((kp : Int) + 1)) { s' with pc := (kp : Int) + 1 } _ ov' rfl HM4.out.out (by simp)
end VmC
end Go.Proofs.Ytceflfdpbgnfjaa
