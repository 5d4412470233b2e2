/- Package lock: run. -/
import Derived.Test.YtllfpbngfkimlaaLkC
set_option linter.unusedVariables false
namespace Go.Proofs.Ytllfpbngfkimlaa
open Go.RowKit
open Go.Shelf Go.Sort
open SpanM SpanC IntsC
open RowsO hiding Wk
namespace LockC
open LockM
open NumC (Row)
theorem ac_at {l : List LockM.Ac} {m : Nat} (h : m < l.length) : l.getD m zAc = l[m] := by simp [List.getD, h]
/-- who has each lock, when the chosen one stands at an act -/
def Pw (w : LockM.Wk) (n b : Nat) (S : Nat → List Int) (own : List Int) (m : Nat) : Prop := Ow n (setS S b ((hasAt w.2 m).getD [])) own
section
variable {w : LockM.Wk} {n b m : Nat} {S : Nat → List Int} {own : List Int}
theorem Pw.take (hw : w.Ok) (hm : m < w.2.length) (e : w.2[m].1 = 2) (hb : b < n) (hf : ∀ k : Int, ((2 : Int), k) ∈ w.2 → ∀ i, i < n → i ≠ b → k ∉ S i) (p : Pw w n b S own m) :
    ∃ k : Nat, k < 8 ∧ w.2[m] = (2, (k : Int)) ∧ own.getD k 0 = -1 ∧ Pw w n b S (own.set k (b : Int)) (m + 1) := by
  obtain ⟨h, h1, h2, h3, h4, h5⟩ := hasAt_take hw hm e
  unfold Pw at *
  rw [h1] at p
  rw [h5]
  simp only [Option.getD_some] at *
  obtain ⟨k, hk⟩ : ∃ k : Nat, w.2[m].2 = (k : Int) := ⟨w.2[m].2.toNat, by omega⟩
  rw [hk] at h2 h3 h4 h5 ⊢
  have he : w.2[m] = (2, (k : Int)) := by rw [← e, ← hk]
  have k8 : k < 8 := by omega
  have hmem : ((2 : Int), (k : Int)) ∈ w.2 := by rw [← he]; exact List.getElem_mem hm
  have free : ∀ i, i < n → (k : Int) ∉ setS S b h i := by
    intro i hi
    by_cases eb : i = b
    · subst eb; rw [setS_self]; exact h4
    · rw [setS_other eb]; exact hf _ hmem i hi eb
  refine ⟨k, k8, he, p.free k8 free, ?_⟩
  have := p.take k8 hb free
  rwa [setS_set, setS_self] at this
theorem Pw.drop (hw : w.Ok) (hm : m < w.2.length) (e : w.2[m].1 = 3) (hb : b < n) (hf : ∀ k : Int, ((2 : Int), k) ∈ w.2 → ∀ i, i < n → i ≠ b → k ∉ S i) (p : Pw w n b S own m) :
    ∃ k : Nat, k < 8 ∧ w.2[m] = (3, (k : Int)) ∧ Pw w n b S (own.set k (-1)) (m + 1) := by
  obtain ⟨h, h1, h2, h3⟩ := hasAt_drop hw hm e
  have kp := hasAt_keeps h1
  unfold Pw at *
  rw [h1] at p
  rw [h3]
  simp only [Option.getD_some] at *
  have hin : w.2[m].2 ∈ h := by
    obtain ⟨ys, e⟩ := List.getLast?_eq_some_iff.1 h2
    rw [e]; simp
  obtain ⟨k, hk⟩ : ∃ k : Nat, w.2[m].2 = (k : Int) := ⟨w.2[m].2.toNat, by have := kp.2 _ hin; omega⟩
  have hb8 := kp.2 _ hin
  rw [hk] at h2 hin hb8
  have he : w.2[m] = (3, (k : Int)) := by rw [← e, ← hk]
  have k8 : k < 8 := by omega
  refine ⟨k, k8, he, ?_⟩
  have := p.drop k8 hb (by rw [setS_self]; exact h2) (by rw [setS_self]; exact kp.1) (fun i hi hne => by rw [setS_other hne]; exact hf _ (took h1 hin) i hi hne)
  rwa [setS_set, setS_self] at this
theorem Pw.run (hw : w.Ok) (hm : m < w.2.length) (e : w.2[m].1 = 1) (p : Pw w n b S own m) : Pw w n b S own (m + 1) := by
  have a := hasAt_all hw.all (j := m + 1) (by omega)
  have a0 := hasAt_all hw.all (j := m) (by omega)
  obtain ⟨h, hh⟩ := Option.isSome_iff_exists.1 a0
  unfold Pw at *
  rw [hasAt_succ hm, hh] at a ⊢
  rw [hh] at p
  simp only [stp, e, if_true] at a ⊢
  split at a
  · rename_i c; rw [if_pos c]; exact p
  · cases a
end
/-- acts that lie below a block, and so stay -/
def Far (C : Nat) (W : World) (a : Option Addr) (l : List LockM.Ac) : Prop := ∃ W0 : World, W0.heap.size = C ∧ Acs W0 a l ∧ Below C W0 W
theorem Far.next {C : Nat} {W W' : World} {a : Option Addr} {l : List LockM.Ac} (h : Far C W a l) (hb : Below C W W') : Far C W' a l := by
  obtain ⟨W0, h1, h2, h3⟩ := h
  exact ⟨W0, h1, h2, h3.trans hb⟩
theorem Far.acs {C : Nat} {W : World} {a : Option Addr} {l : List LockM.Ac} (h : Far C W a l) : Acs W a l := by
  obtain ⟨W0, h1, h2, h3⟩ := h
  exact h2.below h3 (by omega)
theorem Far.of {W : World} {a : Option Addr} {l : List LockM.Ac} (h : Acs W a l) : Far W.heap.size W a l := ⟨W, rfl, h, Below.refl _ _⟩
theorem Far.at {C : Nat} {W : World} {a : Option Addr} {l : List LockM.Ac} (h : Far C W a l) {k : Nat} (hk : k < l.length) : ∃ b off, a = some ⟨b, off, none⟩ ∧ b < C ∧ W.cell? ⟨b, off + k * 2, none⟩ = some (.int .i64 l[k].1) ∧ W.cell? ⟨b, off + k * 2 + 1, none⟩ = some (.int .i64 l[k].2) := by
  have hA := h.acs
  obtain ⟨W0, h1, h2, h3⟩ := h
  obtain ⟨b, off, e, hb, _⟩ := h2.at k hk
  obtain ⟨b', off', e', _, d1, d2⟩ := hA.at k hk
  rw [e] at e'
  simp only [Option.some.injEq, Addr.mk.injEq, and_true] at e'
  obtain ⟨rfl, rfl⟩ := e'
  rw [ac_at hk] at d1 d2
  exact ⟨b, off, e, by omega, d1, d2⟩
/-- at which act it is, by its cell -/
def nx (g b : Nat) (W : World) : Nat := match W.cell? ⟨g, b * 5 + 3, none⟩ with
  | some v => (intOf v).toNat
  | none => 0
theorem nx_eq {W : World} {B sb g cap : Nat} {cl own : List Int} {ws : List Wr} (h : Sit W B sb g cap cl own ws) {b : Nat} (hb : b < ws.length) : nx g b W = ws[b].next := by
  unfold nx
  rw [(h.wat hb).c3]
  simp [intOf]
variable {W : World} {B sb g cap : Nat} {cl own : List Int} {ws : List Wr}
/-- what is known of the one that runs -/
structure Mine (W : World) (C sb g : Nat) (ws : List Wr) (b : Nat) (x : Wr) (w : LockM.Wk) (r : Nat) : Prop where
  lt : b < ws.length
  it : ws[b]? = some x
  num : x.num = b
  len : x.n = w.2.length
  ok : w.Ok
  far : Far C W x.a w.2
  at_ : At w.2 r x.next x.ran
  left : r < (units 0 w.2).length
  csb : C ≤ sb
  cg : C ≤ g
  cs : C ≤ W.heap.size
theorem it_eq {ws : List Wr} {b : Nat} {x : Wr} (hb : b < ws.length) (h : ws[b]? = some x) : ws[b] = x := by
  rw [List.getElem?_eq_getElem hb] at h; exact Option.some.inj h
theorem set_it {ws : List Wr} {b : Nat} (hb : b < ws.length) (y : Wr) (h : b < (ws.set b y).length) : (ws.set b y)[b] = y := by simp
theorem set_same {ws : List Wr} {b : Nat} {x : Wr} (h : ws[b]? = some x) : ws.set b x = ws := by
  apply List.ext_getElem?
  intro i
  rw [List.getElem?_set]
  split
  · rename_i e; subst e
    rw [if_pos (List.getElem?_eq_some_iff.1 h).1, h]
  · rfl
set_option maxRecDepth 20000 in
set_option maxHeartbeats 400000 in
theorem run_any (h : Sit W B sb g cap cl own ws) (C b : Nat) (x : Wr) (w : LockM.Wk) (r : Nat) (S : Nat → List Int) (m0 : Mine W C sb g ws b x w r) (hp : Pw w ws.length b S own x.next) (hf : ∀ k : Int, ((2 : Int), k) ∈ w.2 → ∀ i, i < ws.length → i ≠ b → k ∉ S i) (hlen : w.2.length ≤ 30) :
    Calls Try.prog 49 #[.pointer (some ⟨sb, 0, none⟩), .pointer (some ⟨g, b * 5, none⟩)] W fun e W' => e = .returned (.bool true) ∧ ∃ own' j q, Sit W' B sb g cap cl own' (ws.set b { x with next := j, ran := q }) ∧ At w.2 (r + 1) j q ∧ Pw w ws.length b S own' j ∧ Ch sb (some g) W W' := by
  have HM := hid m0
  have HS := hid h
  have HP := hid hp
  have HF := hid hf
  have hb := m0.lt
  clear m0 h hp hf
  go_enter Try.func49, Try.ntmps49
  go_wp2_with fail
  go_loopw [] (fun wr => ∃ (m : Nat) (own' : List Int), x.next ≤ m ∧ m ≤ w.2.length ∧ Hid (∀ i (h : i < w.2.length), x.next ≤ i → i < m → w.2[i].1 ≠ 1) ∧ Hid (Sit wr B sb g cap cl own' (ws.set b { x with next := m })) ∧ Hid (Pw w ws.length b S own' m) ∧ Hid (Ch sb (some g) W wr)) (fun wr => w.2.length - nx g b wr)
  case atStart => exact ⟨x.next, own, Nat.le_refl _, HM.out.at_.le, fun i _ h1 h2 => by omega, (by have := HS.out; rwa [show ({ x with next := x.next } : Wr) = x from rfl, set_same HM.out.it]), HP.out, Ch.refl _ _ _⟩
  case round =>
    obtain ⟨m, own', hm1, hm2, hno, hsit, hpw, hch⟩ := hrel
    have hml : m < w.2.length := HM.out.at_.ahead HM.out.left hm1 hm2 hno.out
    have hb2 : b < (ws.set b { x with next := m }).length := by rw [List.length_set]; exact hb
    have hit := set_it hb { x with next := m } hb2
    have hfar := HM.out.far.next (hch.out.bel HM.out.csb HM.out.cg HM.out.cs)
    have hxl := HM.out.len
    have HWA : Hid (WAt wr g (b * 5) { x with next := m }) := by
      have := hsit.out.wat hb2
      rwa [hit] at this
    have HK := hid (fun (K : Int) => isAt_kind wr g (b * 5) { x with next := m } K w.2 HWA.out hxl hml hfar.acs)
    have hget := ac_at hml
    rcases kind_of HM.out.ok.all hml with c | c | c
    · -- it runs
      obtain ⟨b', off, ha, hb'C, d1, d2⟩ := hfar.at hml
      have HE := hid c.1
      have hN1 := c.2.1
      have hN2 := c.2.2
      have hc2 := hid (HM.out.at_.q_lt HM.out.ok hm1 hml c.1 hno.out)
      have hran : x.ran ≤ 1000 := by have := hc2.out.1; omega
      simp only [hget, c.1] at HK
      generalize hN : w.2[m].2 = N at *
      have hgN := hid hN
      have c1 := HWA.out.c1
      have c3 := HWA.out.c3
      have c4 := HWA.out.c4
      simp only at c1 c3 c4
      have f4 := hsit.out.fro_row (b * 5 + 4)
      have f3 := hsit.out.fro_row (b * 5 + 3)
      have hbg : b' ≠ g := by have := HM.out.cg; omega
      have i1 : (m : Int) < (x.n : Int) := by omega
      rw [ha] at c1
      have Hit := hid hit
      have Hfar := hid hfar
      have HX := hid ha
      have HML := hid hml
      clear hit hfar hget c hN ha
      by_cases hq : (x.ran : Int) + 1 < N
      · have HQ := hid hq
        go_wp2_with (first | (go_at_call 59; refine Calls.mono (HK.out _) ?_; rintro e w1 ⟨rfl, m1, rfl⟩))
        go_quiet (fail)
        go_wp2_with fail
        go_ret
        have hA := HM.out.at_.more HM.out.ok hm1 hml HE.out hno.out (by rw [hgN.out]; exact HQ.out)
        refine ⟨rfl, own', m, x.ran + 1, ?_, hA, hpw.out, ?_⟩
        · have := ((hsit.out.drewN m1).setRow hb2 4 (by decide) (.int .i64 ((x.ran + 1 : Nat) : Int)) { x with next := m, ran := x.ran + 1 } (by rw [Hit.out]; rfl)).drewN nq
          rwa [List.set_set] at this
        · exact ((hch.out.drewN _).row _ _).drewN _
      · have HQ := hid hq
        go_wp2_with (first | (go_at_call 59; refine Calls.mono (HK.out _) ?_; rintro e w1 ⟨rfl, m1, rfl⟩))
        go_quiet (fail)
        go_wp2_with fail
        have hS7 : Sit (((((wr.drewN m1).setCell ⟨g, b * 5 + 4, none⟩ (.int .i64 ((x.ran + 1 : Nat) : Int))).drewN nq).setCell ⟨g, b * 5 + 3, none⟩ (.int .i64 ((m + 1 : Nat) : Int))).setCell ⟨g, b * 5 + 4, none⟩ (.int .i64 ((0 : Nat) : Int))) B sb g cap cl own' (ws.set b { x with next := m + 1, ran := 0 }) := by
          have s1 := ((hsit.out.drewN m1).setRow hb2 4 (by decide) (.int .i64 ((x.ran + 1 : Nat) : Int)) { x with next := m, ran := x.ran + 1 } (by rw [Hit.out]; rfl)).drewN nq
          rw [List.set_set] at s1
          have s2 := s1.setRow (i := b) (by rw [List.length_set]; exact hb) 3 (by decide) (.int .i64 ((m + 1 : Nat) : Int)) { x with next := m + 1, ran := x.ran + 1 } (by rw [set_it hb]; rfl)
          rw [List.set_set] at s2
          have s3 := s2.setRow (i := b) (by rw [List.length_set]; exact hb) 4 (by decide) (.int .i64 ((0 : Nat) : Int)) { x with next := m + 1, ran := 0 } (by rw [set_it hb]; rfl)
          rwa [List.set_set] at s3
        have hC7 : Ch sb (some g) W (((((wr.drewN m1).setCell ⟨g, b * 5 + 4, none⟩ (.int .i64 ((x.ran + 1 : Nat) : Int))).drewN nq).setCell ⟨g, b * 5 + 3, none⟩ (.int .i64 ((m + 1 : Nat) : Int))).setCell ⟨g, b * 5 + 4, none⟩ (.int .i64 ((0 : Nat) : Int))) := ((((hch.out.drewN _).row _ _).drewN _).row _ _).row _ _
        have HS7 := hid hS7
        have HC7 := hid hC7
        have HP7 := hid (hpw.out.run HM.out.ok hml HE.out)
        clear hS7 hC7 c1 c3 c4 f3 f4 d1 d2 hq
        go_loopw [] (fun wr => ∃ (p : Nat) (own2 : List Int), m + 1 ≤ p ∧ p ≤ w.2.length ∧ Hid (∀ i (h : i < w.2.length), m + 1 ≤ i → i < p → w.2[i].1 = 3) ∧ Hid (Sit wr B sb g cap cl own2 (ws.set b { x with next := p, ran := 0 })) ∧ Hid (Pw w ws.length b S own2 p) ∧ Hid (Ch sb (some g) W wr)) (fun wr => w.2.length - nx g b wr)
        case atStart => exact ⟨m + 1, own', Nat.le_refl _, by omega, fun i _ h1 h2 => by omega, HS7.out, HP7.out, HC7.out⟩
        case round =>
          obtain ⟨p, own2, hp1, hp2, hdr, hsit2, hpw2, hch2⟩ := hrel
          have hb3 : b < (ws.set b { x with next := p, ran := 0 }).length := by rw [List.length_set]; exact hb
          have hit2 := set_it hb { x with next := p, ran := 0 } hb3
          have HWA2 : Hid (WAt wr g (b * 5) { x with next := p, ran := 0 }) := by
            have := hsit2.out.wat hb3
            rwa [hit2] at this
          have hend : (∀ h : p < w.2.length, w.2[p].1 ≠ 3) → ∃ own' j q, Sit wr B sb g cap cl own' (ws.set b { x with next := j, ran := q }) ∧ At w.2 (r + 1) j q ∧ Pw w ws.length b S own' j ∧ Ch sb (some g) W wr := by
            intro hstop
            have hpe := past_eq hp1 hp2 hdr.out hstop
            have hA := HM.out.at_.last HM.out.ok hm1 hml HE.out hno.out (by rw [hgN.out]; have := HQ.out; omega)
            rw [hpe] at hA
            exact ⟨own2, p, 0, hsit2.out, hA, hpw2.out, hch2.out⟩
          have HEnd := hid hend
          clear hend
          by_cases hpl : p < w.2.length
          · have hfar2 := HM.out.far.next (hch2.out.bel HM.out.csb HM.out.cg HM.out.cs)
            have HK2 := hid (isAt_kind wr g (b * 5) { x with next := p, ran := 0 } 3 w.2 HWA2.out hxl hpl hfar2.acs)
            have hget2 := ac_at hpl
            by_cases hk3 : w.2[p].1 = 3
            · obtain ⟨k, k8, e3, hpw3⟩ := hpw2.out.drop HM.out.ok hpl hk3 hb HF.out
              have HP3 := hid hpw3
              have HH3 := hid (fun q => hand_drop (hsit2.out.drewN q) b hb3 { x with next := p, ran := 0 } hit2 w.2 hxl hpl (by show p ≤ _; omega) (acs_drewN hfar2.acs q) k k8 (by show w.2.getD p zAc = _; rw [hget2, e3]))
              simp only [hget2, e3] at HK2
              have HDR : Hid (∀ i (h : i < w.2.length), m + 1 ≤ i → i < p + 1 → w.2[i].1 = 3) := by
                show ∀ i (h : i < w.2.length), m + 1 ≤ i → i < p + 1 → w.2[i].1 = 3
                intro i hi h1 h2
                rcases Nat.lt_or_ge i p with q | q
                · exact hdr.out i hi h1 q
                · have : i = p := by omega
                  subst this; exact hk3
              have HK3 := hid hk3
              clear hpw3 hfar2 hget2 hit2 e3 hk3
              go_wp2_with (first | (go_at_call 59; refine Calls.mono HK2.out ?_; rintro e w1 ⟨rfl, m1, rfl⟩) | (go_at_call 60; refine Calls.mono (HH3.out _) ?_; rintro e w1 ⟨rfl, hs1, hc1⟩; have HS1 := hid hs1; have HC1 := hid hc1; clear hs1 hc1))
              go_roundw
              case rel =>
                refine ⟨p + 1, own2.set k (-1), by omega, by omega, HDR, ?_, HP3.out, ?_⟩
                · have := HS1.out
                  rwa [List.set_set] at this
                · exact (hch2.out.drewN _).trans HC1.out
              case measure =>
                rw [nx_eq HS1.out (by rw [List.length_set]; exact hb3), nx_eq hsit2.out hb3]
                simp
                omega
            · have HX2 := hid (HEnd.out (fun _ => hk3))
              simp only [hget2, decide_eq_false hk3] at HK2
              clear hfar2 hget2 hit2 hk3
              go_wp2_with (first | (go_at_call 59; refine Calls.mono HK2.out ?_; rintro e w1 ⟨rfl, m1, rfl⟩))
              go_ret
              obtain ⟨o4, j4, q4, x1, x2, x3, x4⟩ := HX2.out
              exact ⟨rfl, o4, j4, q4, x1.drewN _, x2, x3, x4.drewN _⟩
          · have HX2 := hid (HEnd.out (fun h => absurd h hpl))
            have HK2 := hid (isAt_over wr g (b * 5) { x with next := p, ran := 0 } 3 HWA2.out (by show p = x.n; omega))
            clear hit2 hpl
            go_wp2_with (first | (go_at_call 59; refine Calls.mono HK2.out ?_; rintro e w1 ⟨rfl, m1, rfl⟩))
            go_ret
            obtain ⟨o4, j4, q4, x1, x2, x3, x4⟩ := HX2.out
            exact ⟨rfl, o4, j4, q4, x1.drewN _, x2, x3, x4.drewN _⟩
    · -- it takes
      obtain ⟨k, k8, e3, hfr, hpw2⟩ := hpw.out.take HM.out.ok hml c.1 hb HF.out
      have HP2 := hid hpw2
      have HH := hid (fun q => hand_take (hsit.out.drewN q) b hb2 { x with next := m } hit w.2 hxl hml (by show m ≤ _; omega) (acs_drewN hfar.acs q) k k8 (by show w.2.getD m zAc = _; rw [hget, e3]) hfr)
      simp only [hget, e3] at HK
      have HNO : Hid (∀ i (h : i < w.2.length), x.next ≤ i → i < m + 1 → w.2[i].1 ≠ 1) := by
        show ∀ i (h : i < w.2.length), x.next ≤ i → i < m + 1 → w.2[i].1 ≠ 1
        intro i hi h1 h2
        rcases Nat.lt_or_ge i m with q | q
        · exact hno.out i hi h1 q
        · have : i = m := by omega
          subst this; rw [c.1]; decide
      clear hpw2 hfar hget hit hfr e3 c
      go_wp2_with (first | (go_at_call 59; refine Calls.mono (HK.out _) ?_; rintro e w1 ⟨rfl, m1, rfl⟩) | (go_at_call 60; refine Calls.mono (HH.out _) ?_; rintro e w1 ⟨rfl, hs1, hc1⟩; have HS1 := hid hs1; have HC1 := hid hc1; clear hs1 hc1))
      go_roundw
      case rel =>
        refine ⟨m + 1, own'.set k x.num, by omega, by omega, HNO, ?_, ?_, ?_⟩
        · have := HS1.out
          rwa [List.set_set] at this
        · rw [HM.out.num]; exact HP2.out
        · exact (hch.out.drewN _).trans HC1.out
      case measure =>
        rw [nx_eq HS1.out (by rw [List.length_set]; exact hb2), nx_eq hsit.out hb2]
        simp
        omega
    · -- it drops
      obtain ⟨k, k8, e3, hpw2⟩ := hpw.out.drop HM.out.ok hml c hb HF.out
      have HP2 := hid hpw2
      have HH := hid (fun q => hand_drop (hsit.out.drewN q) b hb2 { x with next := m } hit w.2 hxl hml (by show m ≤ _; omega) (acs_drewN hfar.acs q) k k8 (by show w.2.getD m zAc = _; rw [hget, e3]))
      simp only [hget, e3] at HK
      have HNO : Hid (∀ i (h : i < w.2.length), x.next ≤ i → i < m + 1 → w.2[i].1 ≠ 1) := by
        show ∀ i (h : i < w.2.length), x.next ≤ i → i < m + 1 → w.2[i].1 ≠ 1
        intro i hi h1 h2
        rcases Nat.lt_or_ge i m with q | q
        · exact hno.out i hi h1 q
        · have : i = m := by omega
          subst this; rw [c]; decide
      clear hpw2 hfar hget hit e3 c
      go_wp2_with (first | (go_at_call 59; refine Calls.mono (HK.out _) ?_; rintro e w1 ⟨rfl, m1, rfl⟩) | (go_at_call 60; refine Calls.mono (HH.out _) ?_; rintro e w1 ⟨rfl, hs1, hc1⟩; have HS1 := hid hs1; have HC1 := hid hc1; clear hs1 hc1))
      go_roundw
      case rel =>
        refine ⟨m + 1, own'.set k (-1), by omega, by omega, HNO, ?_, HP2.out, ?_⟩
        · have := HS1.out
          rwa [List.set_set] at this
        · exact (hch.out.drewN _).trans HC1.out
      case measure =>
        rw [nx_eq HS1.out (by rw [List.length_set]; exact hb2), nx_eq hsit.out hb2]
        simp
        omega
end LockC
end Go.Proofs.Ytllfpbngfkimlaa
