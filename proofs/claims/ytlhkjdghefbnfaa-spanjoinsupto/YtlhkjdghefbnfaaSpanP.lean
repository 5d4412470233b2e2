/- SpanJoins: what its calls tell exactly, its questions, and the closure that holds an answer against the reference. -/
import Derived.Test.YtlhkjdghefbnfaaSpanH
import Derived.Test.YtlhkjdghefbnfaaSpanK
import Derived.Test.YtlhkjdghefbnfaaSpanR
set_option linter.unusedVariables false
namespace Go.Proofs.Ytlhkjdghefbnfaa
open Go.RowKit
open SpanM
namespace SpanC
/-- an exact answer: error E and nothing, or the set that p tells, or its being too large -/
def JAns (size E : Int) (p : Int → Bool) (s : Int) (r : List Sp) (e : Int) : Prop :=
  (E ≠ 0 ∧ e = E ∧ s = 0 ∧ r = []) ∨ (E = 0 ∧ 1 ≤ size ∧ size ≤ 1000000 ∧ ∃ r', good size (-1) r' = true ∧ (∀ t, mem r' t = p t) ∧ ((r'.length ≤ 200 ∧ e = 0 ∧ s = size ∧ r = r') ∨ (200 < r'.length ∧ e = 2 ∧ s = 0 ∧ r = [])))
theorem j_told {f : Nat} {args : Array Value} {W : World} {size : Int} {p : Int → Bool} (h1 : 1 ≤ size) (h2 : size ≤ 1000000)
    (h : Calls Try.prog f args W fun e w' => (∃ r, good size (-1) r = true ∧ (∀ t, mem r t = p t) ∧ Told size r W.heap.size e w') ∧ Below W.heap.size W w') : Says f args W (JAns size 0 p) := by
  refine h.mono ?_
  rintro e w' ⟨⟨r, hg, hm, ht⟩, hb⟩
  rcases ht with ⟨hl, v, rfl, ho⟩ | ⟨hl, rfl⟩
  · obtain ⟨a, c, rfl, hs, hn, hml⟩ := ho.full
    exact ⟨⟨size, a, c, r, 0, rfl, hs, hn, hml, .inr ⟨rfl, h1, h2, r, hg, hm, .inl ⟨hl, rfl, rfl, rfl⟩⟩⟩, hb⟩
  · exact ⟨⟨0, none, 0, [], 2, rfl, .inl rfl, fun _ => rfl, by simp, .inr ⟨rfl, h1, h2, r, hg, hm, .inr ⟨hl, rfl, rfl, rfl⟩⟩⟩, hb⟩
theorem j_err {f : Nat} {args : Array Value} {W : World} {size E : Int} {p : Int → Bool} (hE : E ≠ 0)
    (h : Calls Try.prog f args W fun e w' => e = .returned (.tuple #[.agg #[.int .i64 0, .slice none 0 0], .int .i64 E]) ∧ Below W.heap.size W w') : Says f args W (JAns size E p) := by
  refine h.mono ?_
  rintro e w' ⟨rfl, hb⟩
  exact ⟨⟨0, none, 0, [], E, rfl, .inl rfl, fun _ => rfl, by simp, .inl ⟨hE, rfl, rfl, rfl⟩⟩, hb⟩
theorem not_j {W : World} {b : Nat} {size : Int} {a : Option Addr} {c : Nat} {l : List Sp} (h : Cell W b size a c l) : Says 22 #[.agg #[.int .i64 size, .slice a l.length c]] W (JAns size (chk size l) (notP size l)) := by
  by_cases hk : chk size l = 0
  · obtain ⟨s1, s2, s3, s4⟩ := chk_zero hk
    have hn := notE_good (size := size) (e := 0) (l := l) (good_weak s4 (by omega))
    have := j_told (p := notP size l) s1 s2 ((not_ok size a c l W h.sp hk).mono fun e w' ⟨ht, hb⟩ => ⟨⟨_, good_weak hn.1 (by omega), hn.2, ht⟩, hb⟩)
    rw [hk]; exact this
  · exact j_err hk (not_err size a c l W h.sp hk)
theorem both_j {W : World} {b1 b2 : Nat} {s1 s2 : Int} {a1 a2 : Option Addr} {c1 c2 : Nat} {l m : List Sp} (h1 : Cell W b1 s1 a1 c1 l) (h2 : Cell W b2 s2 a2 c2 m) : Says 24 #[.agg #[.int .i64 s1, .slice a1 l.length c1], .agg #[.int .i64 s2, .slice a2 m.length c2]] W (JAns s1 (chk2 s1 l s2 m) fun t => mem l t && mem m t) := by
  by_cases hk : chk2 s1 l s2 m = 0
  · rw [hk]
    obtain ⟨k1, k2, rfl⟩ := chk2_zero hk
    obtain ⟨q1, q2, _, _⟩ := chk_zero k1
    exact j_told q1 q2 (both_ok s1 a1 a2 c1 c2 l m W h1.sp h2.sp k1 k2)
  · exact j_err hk (both_err s1 s2 a1 a2 c1 c2 l m W h1.sp h2.sp hk)
theorem either_j {W : World} {b1 b2 : Nat} {s1 s2 : Int} {a1 a2 : Option Addr} {c1 c2 : Nat} {l m : List Sp} (h1 : Cell W b1 s1 a1 c1 l) (h2 : Cell W b2 s2 a2 c2 m) : Says 25 #[.agg #[.int .i64 s1, .slice a1 l.length c1], .agg #[.int .i64 s2, .slice a2 m.length c2]] W (JAns s1 (chk2 s1 l s2 m) fun t => mem l t || mem m t) := by
  by_cases hk : chk2 s1 l s2 m = 0
  · rw [hk]
    obtain ⟨k1, k2, rfl⟩ := chk2_zero hk
    obtain ⟨q1, q2, _, _⟩ := chk_zero k1
    exact j_told q1 q2 (either_ok s1 a1 a2 c1 c2 l m W h1.sp h2.sp h1.nz h2.nz k1 k2)
  · exact j_err hk (either_err s1 s2 a1 a2 c1 c2 l m W h1.sp h2.sp hk)

theorem Asks.below {g : Nat} {cb : Array Value} {p : Int → Bool} {w w' : World} (h : Asks g cb p w) (hb : Below w.heap.size w w') : Asks g cb p w' :=
  fun W t hW => h W t (bel_of hb hW)
theorem ask_not (B : Nat) (s : Int) (a : Option Addr) (c : Nat) (l : List Sp) (w : World) (k : Cell w B s a c l) : Asks 23 #[.pointer (some ⟨B, 0, none⟩)] (fun t => !mem l t) w := by
  intro W t hb
  have hc : W.cell? ⟨B, 1, none⟩ = some (.slice a l.length c) := (hb.cell k.lt).trans k.c1
  have HI := hid (inSpans_any a c l t W (k.sp.below hb (Nat.le_refl _)) k.ml)
  clear hb k
  show Calls Try.prog 23 #[.int .i64 t, .pointer (some ⟨B, 0, none⟩)] W (fun e w' => e = .returned (.bool (!mem l t)) ∧ Below W.heap.size W w')
  generalize mem l t = M at HI ⊢
  go_enter Try.func23, Try.ntmps23
  go_wp2_with (go_at_call 17; refine (HI.out).mono ?_; rintro e w' ⟨rfl, hb'⟩)
  go_ret
  exact ⟨rfl, hb'⟩
theorem ask_both (B B' : Nat) (s s' : Int) (a a' : Option Addr) (c c' : Nat) (l m : List Sp) (w : World) (k : Cell w B s a c l) (k' : Cell w B' s' a' c' m) : Asks 26 #[.pointer (some ⟨B, 0, none⟩), .pointer (some ⟨B', 0, none⟩)] (fun t => mem l t && mem m t) w := by
  intro W t hb
  have hc : W.cell? ⟨B, 1, none⟩ = some (.slice a l.length c) := (hb.cell k.lt).trans k.c1
  have HI := hid (inSpans_any a c l t W (k.sp.below hb (Nat.le_refl _)) k.ml)
  have KK := hid (k'.step (hb.mono (Nat.le_refl _)))
  clear hb k k'
  show Calls Try.prog 26 #[.int .i64 t, .pointer (some ⟨B, 0, none⟩), .pointer (some ⟨B', 0, none⟩)] W (fun e w' => e = .returned (.bool (mem l t && mem m t)) ∧ Below W.heap.size W w')
  obtain ⟨M, hMM⟩ : ∃ M, M = mem m t := ⟨_, rfl⟩
  rw [← hMM]
  cases hM : mem l t with
  | false =>
    rw [hM] at HI
    clear hM
    go_enter Try.func26, Try.ntmps26
    go_wp2_with (go_at_call 17; refine (HI.out).mono ?_; rintro e w' ⟨rfl, hb'⟩)
    go_ret
    exact ⟨by simp, hb'⟩
  | true =>
    rw [hM] at HI
    clear hM
    go_enter Try.func26, Try.ntmps26
    go_wp2_with fail
    refine (HI.out).mono ?_
    rintro e w' ⟨rfl, hb'⟩
    have K2 := KK.out.step hb'
    have c1 := K2.c1
    have HJ := hid (inSpans_any a' c' m t w' K2.sp K2.ml)
    have HB := hid hb'
    clear K2 hb'
    rw [← hMM] at HJ
    go_wp2_with fail
    refine (HJ.out).mono ?_
    rintro e w2 ⟨rfl, hb2⟩
    go_wp2_with fail
    go_ret
    exact ⟨by simp [hMM], bel_of HB.out hb2⟩
theorem ask_either (B B' : Nat) (s s' : Int) (a a' : Option Addr) (c c' : Nat) (l m : List Sp) (w : World) (k : Cell w B s a c l) (k' : Cell w B' s' a' c' m) : Asks 27 #[.pointer (some ⟨B, 0, none⟩), .pointer (some ⟨B', 0, none⟩)] (fun t => mem l t || mem m t) w := by
  intro W t hb
  have hc : W.cell? ⟨B, 1, none⟩ = some (.slice a l.length c) := (hb.cell k.lt).trans k.c1
  have HI := hid (inSpans_any a c l t W (k.sp.below hb (Nat.le_refl _)) k.ml)
  have KK := hid (k'.step (hb.mono (Nat.le_refl _)))
  clear hb k k'
  show Calls Try.prog 27 #[.int .i64 t, .pointer (some ⟨B, 0, none⟩), .pointer (some ⟨B', 0, none⟩)] W (fun e w' => e = .returned (.bool (mem l t || mem m t)) ∧ Below W.heap.size W w')
  obtain ⟨M, hMM⟩ : ∃ M, M = mem m t := ⟨_, rfl⟩
  rw [← hMM]
  cases hM : mem l t with
  | true =>
    rw [hM] at HI
    clear hM
    go_enter Try.func27, Try.ntmps27
    go_wp2_with (go_at_call 17; refine (HI.out).mono ?_; rintro e w' ⟨rfl, hb'⟩)
    go_ret
    exact ⟨by simp, hb'⟩
  | false =>
    rw [hM] at HI
    clear hM
    go_enter Try.func27, Try.ntmps27
    go_wp2_with fail
    refine (HI.out).mono ?_
    rintro e w' ⟨rfl, hb'⟩
    have K2 := KK.out.step hb'
    have c1 := K2.c1
    have HJ := hid (inSpans_any a' c' m t w' K2.sp K2.ml)
    have HB := hid hb'
    clear K2 hb'
    rw [← hMM] at HJ
    go_wp2_with fail
    refine (HJ.out).mono ?_
    rintro e w2 ⟨rfl, hb2⟩
    go_wp2_with fail
    go_ret
    exact ⟨by simp [hMM], bel_of HB.out hb2⟩
set_option maxRecDepth 20000 in
set_option maxHeartbeats 4000000 in
theorem told_any (W : World) (bA bE Bv : Nat) (size : Int) (aA : Option Addr) (cA : Nat) (lA : List Sp) (ve : Value) (es : List Int) (s e E : Int) (a : Option Addr) (c : Nat) (r : List Sp) (g : Nat) (cb : Array Value) (p q : Int → Bool)
    (kA : Cell W bA size aA cA lA) (hbE : W.cell? ⟨bE, 0, none⟩ = some ve) (he : OwnI W Bv ve es) (hl : es.length ≤ 8000000) (hs : Sps W a r) (nz : a = none → c = 0) (ml : r.length ≤ maxLen) (hA : JAns size E p s r e)
    (eg : ∀ args w, (callFunc g args).run Try.prog w = .ok (.enter g args) w) (hin : Asks g cb q W) (hp : ∀ c u, 0 ≤ c → c ≤ u → u < size → (∀ y ∈ es, y ≤ c ∨ u < y) → q u = q c) (hpq : E = 0 → ∀ t, (decide (0 ≤ t ∧ t < size) && q t) = p t) :
    Calls Try.prog 21 #[.agg #[.int .i64 s, .slice a r.length c], .int .i64 e, .int .i64 E, .func (.func g) #[] cb, .pointer (some ⟨bA, 0, none⟩), .pointer (some ⟨bE, 0, none⟩)] W fun e w' => e = .returned (.bool true) ∧ Below W.heap.size W w' := by
  have HO := hid he
  have HIN := hid hin
  have HS := hid hs
  have HA := hid hA
  have HP := hid hp
  have HPQ := hid hpq
  have HL := hid hl
  have KA0 := hid ((kA.alloc (.cells #[.int .i64 s, .slice a r.length c] 24)).alloc (.cells #[.int .i64 0, .slice none 0 0] 24))
  have K10 := hid ((Cell.new (s := s) hs nz ml).alloc (.cells #[.int .i64 0, .slice none 0 0] 24))
  have KW0 : Hid (Cell ((W.alloc (.cells #[.int .i64 s, .slice a r.length c] 24)).alloc (.cells #[.int .i64 0, .slice none 0 0] 24)) (W.heap.size + 1) 0 none 0 []) := Cell.new' (by simp) (.inl rfl) (fun _ => rfl) (by simp)
  have KE0 : Hid (((W.alloc (.cells #[.int .i64 s, .slice a r.length c] 24)).alloc (.cells #[.int .i64 0, .slice none 0 0] 24)).cell? ⟨bE, 0, none⟩ = some ve) := Lib.cell?_alloc_some _ (Lib.cell?_alloc_some _ hbE)
  have E0 : Hid (Below W.heap.size W ((W.alloc (.cells #[.int .i64 s, .slice a r.length c] 24)).alloc (.cells #[.int .i64 0, .slice none 0 0] 24))) := by
    show Below _ _ _
    go_grown
  have FW0 : Hid (((W.alloc (.cells #[.int .i64 s, .slice a r.length c] 24)).alloc (.cells #[.int .i64 0, .slice none 0 0] 24)).frozen? ⟨W.heap.size + 1, 0, none⟩ = false ∧ ((W.alloc (.cells #[.int .i64 s, .slice a r.length c] 24)).alloc (.cells #[.int .i64 0, .slice none 0 0] 24)).frozen? ⟨W.heap.size + 1, 1, none⟩ = false) := ⟨World.frozen?_alloc_at _ _ _ _ (by simp), World.frozen?_alloc_at _ _ _ _ (by simp)⟩
  have C0 : Hid (Below (W.heap.size + 1) (W.alloc (.cells #[.int .i64 s, .slice a r.length c] 24)) ((W.alloc (.cells #[.int .i64 s, .slice a r.length c] 24)).alloc (.cells #[.int .i64 0, .slice none 0 0] 24))) := Below.alloc (Below.refl _ _) (by simp) _
  clear he hin hs hA hp hpq hl kA hbE
  by_cases hE : E = 0
  · subst hE
    obtain ⟨q1, q2, r', hg, hm, hAlt⟩ : 1 ≤ size ∧ size ≤ 1000000 ∧ ∃ r', good size (-1) r' = true ∧ (∀ t, mem r' t = p t) ∧ ((r'.length ≤ 200 ∧ e = 0 ∧ s = size ∧ r = r') ∨ (200 < r'.length ∧ e = 2 ∧ s = 0 ∧ r = [])) := by
      rcases HA.out with ⟨h, _⟩ | ⟨_, h⟩
      · exact absurd rfl h
      · exact h
    have HSO := hid (setOf_any size ve es Bv g cb q _ q1 q2 (HO.out.below E0.out (Nat.le_refl _)) HL.out eg (HIN.out.below E0.out) HP.out)
    have HPR := hid (HPQ.out rfl)
    have HG := hid hg
    have HM := hid hm
    have HAlt := hid hAlt
    have K1a := hid (Cell.new (s := s) HS.out nz ml)
    clear hg hm hAlt HA HP HL HIN
    obtain ⟨_, ka0, _, _, _, _⟩ := KA0.out
    have ke0 := KE0.out
    go_enter Try.func21, Try.ntmps21
    go_wp2_with fail
    refine HSO.out.mono ?_
    rintro e6 w6 ⟨⟨v6, r6, rfl, ho6, hg6, hm6⟩, b6⟩
    have hr6 : r6 = r' := unique hg6 HG.out fun t => (hm6 t).trans ((HPR.out t).trans (HM.out t).symm)
    subst hr6
    have K16 := hid (K10.out.step b6)
    have KW6 := hid (KW0.out.step b6)
    have E6 := hid (bel_of E0.out b6)
    have C6 := hid (C0.out.trans (b6.mono (Nat.le_of_lt KW0.out.lt)))
    have FW6 : Hid (w6.frozen? ⟨W.heap.size + 1, 0, none⟩ = false ∧ w6.frozen? ⟨W.heap.size + 1, 1, none⟩ = false) := ⟨(b6.frozen KW0.out.lt).trans FW0.out.1, (b6.frozen KW0.out.lt).trans FW0.out.2⟩
    have OW6 := hid ho6
    obtain ⟨aw, cw, hv6, _, nzw, mlw⟩ := ho6.full
    subst hv6
    have NZW := hid nzw
    have MLW := hid mlw
    clear ho6 hg6 hm6 b6 nzw mlw HSO ka0 ke0 KE0 KA0 HG HM HPQ HPR HO
    obtain ⟨W7, hW7⟩ : ∃ W7, W7 = (w6.setCell ⟨W.heap.size + 1, 0, none⟩ (.int .i64 size)).setCell ⟨W.heap.size + 1, 1, none⟩ (.slice aw r6.length cw) := ⟨_, rfl⟩
    have C7 : Hid (Below (W.heap.size + 1) (W.alloc (.cells #[.int .i64 s, .slice a r.length c] 24)) W7) := by rw [hW7]; exact Below.setCell (Below.setCell C6.out (by simp) _) (by simp) _
    have E7 : Hid (Below W.heap.size W W7) := by rw [hW7]; exact Below.setCell (Below.setCell E6.out (by simp) _) (by simp) _
    have hsz7 : w6.heap.size ≤ W7.heap.size := by rw [hW7]; simp [World.setCell]
    have K17 : Hid (Cell W7 W.heap.size s a c r) := ⟨Nat.lt_of_lt_of_le K16.out.lt hsz7, (C7.out.cell (by simp)).trans K1a.out.c0, (C7.out.cell (by simp)).trans K1a.out.c1, HS.out.below E7.out (Nat.le_refl _), nz, ml⟩
    have SP7 : Hid (Sps W7 aw r6) := by
      have OW7 : Own W7 ((W.alloc (.cells #[.int .i64 s, .slice a r.length c] 24)).alloc (.cells #[.int .i64 0, .slice none 0 0] 24)).heap.size (.slice aw r6.length cw) r6 := by rw [hW7]; exact ownsRow_setCell_below (ownsRow_setCell_below OW6.out (by simp) _) (by simp) _
      obtain ⟨a', c', e', h', _⟩ := OW7.full
      simp only [Value.slice.injEq] at e'
      rw [e'.1]; exact h'
    have KW7 : Hid (Cell W7 (W.heap.size + 1) size aw cw r6) := by
      refine ⟨Nat.lt_of_lt_of_le KW6.out.lt hsz7, ?_, ?_, SP7.out, NZW.out, MLW.out⟩
      · rw [hW7]; exact (World.cell?_setCell_other _ _ _ _ (by simp)).trans (World.cell?_setCell_same _ _ _ KW6.out.c0)
      · rw [hW7]; exact World.cell?_setCell_same _ _ _ ((World.cell?_setCell_other _ _ _ _ (by simp)).trans KW6.out.c1)
    have FW7 : Hid (W7.frozen? ⟨W.heap.size + 1, 0, none⟩ = false ∧ W7.frozen? ⟨W.heap.size + 1, 1, none⟩ = false) := by
      rw [hW7]; exact ⟨(World.frozen?_setCell ..).trans ((World.frozen?_setCell ..).trans FW6.out.1), (World.frozen?_setCell ..).trans ((World.frozen?_setCell ..).trans FW6.out.2)⟩
    obtain ⟨_, g0, g1, _, _, _⟩ := KW6.out
    obtain ⟨h0', h1'⟩ := FW6.out
    rcases HAlt.out with ⟨hle, rfl, rfl, hr⟩ | ⟨hgt, rfl, rfl, hr⟩
    · have hn : ¬ (200 : Int) < (r6.length : Int) := by omega
      have HX := hid (same_any s s a aw c cw r r6 _ K17.out.sp KW7.out.sp K17.out.ml KW7.out.ml)
      rw [decide_eq_true ⟨rfl, hr⟩] at HX
      have HWe := hid hW7
      obtain ⟨_, f0, f1, _, _, _⟩ := K17.out
      obtain ⟨_, f2, f3, _, _, _⟩ := KW7.out
      rw [hW7] at f0 f1 f2 f3
      clear hr hle HAlt hW7
      go_wp2_with fail
      rw [← HWe.out]
      refine HX.out.mono ?_
      rintro e w' ⟨rfl, hb'⟩
      have E1 := hid (bel_of E7.out hb')
      clear hb'
      go_wp2_with fail
      go_ret
      exact ⟨by simp, E1.out⟩
    · have hn : (200 : Int) < (r6.length : Int) := by omega
      obtain ⟨W8, hW8⟩ : ∃ W8, W8 = (W7.setCell ⟨W.heap.size + 1, 0, none⟩ (.int .i64 0)).setCell ⟨W.heap.size + 1, 1, none⟩ (.slice none 0 0) := ⟨_, rfl⟩
      have C8 : Hid (Below (W.heap.size + 1) (W.alloc (.cells #[.int .i64 0, .slice a r.length c] 24)) W8) := by rw [hW8]; exact Below.setCell (Below.setCell C7.out (by simp) _) (by simp) _
      have E8 : Hid (Below W.heap.size W W8) := by rw [hW8]; exact Below.setCell (Below.setCell E7.out (by simp) _) (by simp) _
      have hsz8 : W7.heap.size ≤ W8.heap.size := by rw [hW8]; simp [World.setCell]
      have K18 : Hid (Cell W8 W.heap.size 0 a c r) := ⟨Nat.lt_of_lt_of_le K17.out.lt hsz8, (C8.out.cell (by simp)).trans K1a.out.c0, (C8.out.cell (by simp)).trans K1a.out.c1, HS.out.below E8.out (Nat.le_refl _), nz, ml⟩
      have KW8 : Hid (Cell W8 (W.heap.size + 1) 0 none 0 []) := by
        refine ⟨Nat.lt_of_lt_of_le KW7.out.lt hsz8, ?_, ?_, .inl rfl, fun _ => rfl, by simp⟩
        · rw [hW8]; exact (World.cell?_setCell_other _ _ _ _ (by simp)).trans (World.cell?_setCell_same _ _ _ KW7.out.c0)
        · rw [hW8]; exact World.cell?_setCell_same _ _ _ ((World.cell?_setCell_other _ _ _ _ (by simp)).trans KW7.out.c1)
      have HX := hid (same_any 0 0 a none c 0 r [] _ K18.out.sp KW8.out.sp K18.out.ml KW8.out.ml)
      rw [decide_eq_true ⟨rfl, hr⟩] at HX
      have HWe := hid hW7
      have HWf := hid hW8
      obtain ⟨_, f0, f1, _, _, _⟩ := K18.out
      obtain ⟨_, f2, f3, _, _, _⟩ := KW8.out
      obtain ⟨_, f4, f5, _, _, _⟩ := KW7.out
      obtain ⟨f6, f7⟩ := FW7.out
      rw [hW8, hW7] at f0 f1 f2 f3
      rw [hW7] at f4 f5 f6 f7
      clear hr hgt HAlt hW7 hW8
      go_wp2_with fail
      rw [← HWe.out, ← HWf.out]
      refine HX.out.mono ?_
      rintro e w' ⟨rfl, hb'⟩
      have E1 := hid (bel_of E8.out hb')
      clear hb'
      go_wp2_with fail
      go_ret
      exact ⟨by simp, E1.out⟩
  · obtain ⟨_, rfl, rfl, hr⟩ : E ≠ 0 ∧ e = E ∧ s = 0 ∧ r = [] := by
      rcases HA.out with h | ⟨h, _⟩
      · exact h
      · exact absurd h hE
    have HX := hid (same_any 0 0 a none c 0 r [] _ K10.out.sp KW0.out.sp K10.out.ml KW0.out.ml)
    rw [decide_eq_true ⟨rfl, hr⟩] at HX
    have hEb : (e == 0) = false := by simp [hE]
    have hEe : (e == e) = true := by simp
    clear HA HPQ hr
    go_enter Try.func21, Try.ntmps21
    go_wp2_with fail
    refine HX.out.mono ?_
    rintro e w' ⟨rfl, hb'⟩
    have E1 := hid (bel_of E0.out hb')
    clear hb'
    go_wp2_with fail
    go_ret
    exact ⟨by simp, E1.out⟩
end SpanC
end Go.Proofs.Ytlhkjdghefbnfaa
