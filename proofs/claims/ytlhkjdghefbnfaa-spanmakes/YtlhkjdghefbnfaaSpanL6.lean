/- The walk of SpanMakes. -/
import Derived.Test.YtlhkjdghefbnfaaSpanH
import Derived.Test.YtlhkjdghefbnfaaSpanZ
import Derived.Test.YtlhkjdghefbnfaaSpanR
import Derived.Deep.RegionWith
import Derived.BigQuiet
set_option linter.unusedVariables false
namespace Go.Proofs.Ytlhkjdghefbnfaa
open Go.RowKit
open SpanM
namespace SpanC
theorem ofG_snoc (size : Int) (l : List Sp) (x : Sp) : ofG size (l ++ [x]) = if fit size x = true then ofG size l else 4 := by
  unfold ofG
  rw [List.all_append]
  by_cases h : fit size x = true
  · rw [if_pos h]
    simp only [List.all_cons, List.all_nil, h, Bool.and_true]
  · rw [if_neg h, if_neg]
    simp only [List.all_cons, List.all_nil, Bool.and_true, Bool.and_eq_true]
    exact fun hh => h hh.2
theorem ask_makes (B : Nat) (a : Option Addr) (c : Nat) (l : List Sp) (w : World) (h : w.cell? ⟨B, 0, none⟩ = some (.slice a l.length c)) (hs : Sps w a l) (hl : l.length ≤ maxLen) : Asks 16 #[.pointer (some ⟨B, 0, none⟩)] (mem l) w := by
  intro W t hb
  have hc : W.cell? ⟨B, 0, none⟩ = some (.slice a l.length c) := (hb.cell (World.block_lt_of_cell? w _ h)).trans h
  have HI := hid (inSpans_any a c l t W (hs.below hb (Nat.le_refl _)) hl)
  clear h hs hb
  generalize mem l t = M at *
  show Calls Try.prog 16 #[.int .i64 t, .pointer (some ⟨B, 0, none⟩)] W _
  go_enter Try.func16, Try.ntmps16
  go_wp2_with (go_at_call 17; refine (HI.out).mono ?_; rintro e w' ⟨rfl, hb'⟩)
  go_ret
  exact ⟨rfl, hb'⟩
set_option maxRecDepth 20000 in
set_option maxHeartbeats 4000000 in
theorem makes_arg (sS size : Int) (aS a : Option Addr) (cS c : Nat) (lS l : List Sp) (w : World) (spS : Sps w aS lS) (nzS : aS = none → cS = 0) (mlS : lS.length ≤ maxLen) (spL : Sps w a l) (h : ¬ (1 ≤ size ∧ size ≤ 1000000)) :
    Calls Try.prog 3 #[.agg #[.int .i64 sS, .slice aS lS.length cS], .int .i64 size, .slice a l.length c] w fun e w' => e = .returned (.bool true) ∧ Below w.heap.size w w' := by
  have hE : ofE size l = 1 := by unfold ofE; rw [if_neg h]
  have HS := hid spL
  have HSS := hid spS
  have KS0 := hid ((Cell.new (s := sS) spS nzS mlS).alloc (.cells #[.slice a l.length c] 22))
  have KL0 : Hid (((w.alloc (.cells #[.int .i64 sS, .slice aS lS.length cS] 24)).alloc (.cells #[.slice a l.length c] 22)).cell? ⟨w.heap.size + 1, 0, none⟩ = some (.slice a l.length c)) := World.cell?_alloc_at _ _ _ _ (by simp)
  have E0 : Hid (Below w.heap.size w ((w.alloc (.cells #[.int .i64 sS, .slice aS lS.length cS] 24)).alloc (.cells #[.slice a l.length c] 22))) := by
    show Below _ _ _
    go_grown
  clear spS spL nzS mlS
  go_enter Try.func3, Try.ntmps3
  go_wp2_with fail
  refine (of_tells (HS.out.below E0.out (Nat.le_refl _))).mono ?_
  rintro e w1 ⟨⟨s1, a1, c1, r1, er1, rfl, hs1, hn1, hm1, hA1⟩, b1⟩
  have QA := hid hA1
  have KS1 := hid (KS0.out.step b1)
  have KL1 := hid ((b1.cell (p := ⟨w.heap.size + 1, 0, none⟩) (by simp)).trans KL0.out)
  have E1 := hid (bel_of E0.out b1)
  have hsz1 : w.heap.size + 2 ≤ w1.heap.size := by have := b1.size; simpa using this
  have K1 := hid (Cell.new (s := s1) hs1 hn1 hm1)
  have HS1 := hid hs1
  clear hA1 hs1 hn1 hm1 b1 KS0 KL0 E0
  obtain ⟨W2, hW2⟩ : ∃ W2, W2 = (w1.alloc (.cells #[.int .i64 s1, .slice a1 r1.length c1] 24)).alloc (.cells #[.int .i64 0, .slice none 0 0] 24) := ⟨_, rfl⟩
  have KSx : Hid (Cell W2 w.heap.size sS aS cS lS) := by rw [hW2]; exact (KS1.out.alloc _).alloc _
  have K1x : Hid (Cell W2 w1.heap.size s1 a1 c1 r1) := by rw [hW2]; exact K1.out.alloc _
  have KWx : Hid (Cell W2 (w1.heap.size + 1) 0 none 0 []) := by rw [hW2]; exact Cell.new' (by simp) (.inl rfl) (fun _ => rfl) (by simp)
  have KLx : Hid (W2.cell? ⟨w.heap.size + 1, 0, none⟩ = some (.slice a l.length c)) := by
    rw [hW2]; exact Lib.cell?_alloc_some _ (Lib.cell?_alloc_some _ KL1.out)
  have EX : Hid (Below w.heap.size w W2) := by rw [hW2]; exact Below.alloc (Below.alloc E1.out E1.out.size _) (by simp; omega) _
  have FW : Hid (W2.frozen? ⟨w1.heap.size + 1, 0, none⟩ = false ∧ W2.frozen? ⟨w1.heap.size + 1, 1, none⟩ = false) := by
    rw [hW2]; exact ⟨World.frozen?_alloc_at _ _ _ _ (by simp), World.frozen?_alloc_at _ _ _ _ (by simp)⟩
  have F1 : Hid (Below w1.heap.size w1 W2) := by rw [hW2]; exact Below.alloc (Below.alloc (Below.refl _ _) (Nat.le_refl _) _) (by simp) _
  clear KS1 KL1 K1 E1
  have hq : er1 = 1 ∧ s1 = 0 ∧ r1 = [] := by
    rcases QA.out with ⟨h, _⟩ | ⟨_, h2, h3, h4⟩
    · rw [hE] at h; simp at h
    · exact ⟨by rw [h2, hE], h3, h4⟩
  obtain ⟨rfl, rfl, hr0⟩ := hq
  have HR0 := hid hr0
  clear QA hE hr0
  go_wp2_with fail
  refine (between_no _ _ _ _ h).mono ?_
  rintro e w' ⟨rfl, hw'⟩
  subst hw'
  rw [← hW2]
  clear hW2
  obtain ⟨_, fs0, fs1, _, _, _⟩ := KSx.out
  obtain ⟨_, fa0, fa1, _, _, _⟩ := K1x.out
  obtain ⟨_, fw0, fw1, _, _, _⟩ := KWx.out
  have ps0 := BelowOf.cell fs0
  have ps1 := BelowOf.cell fs1
  have pa0 := BelowOf.cell fa0
  have pa1 := BelowOf.cell fa1
  have pw0 := BelowOf.cell fw0
  have pw1 := BelowOf.cell fw1
  clear fs0 fs1 fa0 fa1 fw0 fw1
  have X1 := hid (fun V (h : Below W2.heap.size W2 V) => check_any sS aS cS lS V (KSx.out.sp.below h (Nat.le_refl _)))
  have X2 := hid (fun V (h : Below W2.heap.size W2 V) => right_any sS aS cS lS V (KSx.out.sp.below h (Nat.le_refl _)))
  have X3 := hid (fun V (h : Below W2.heap.size W2 V) => same_any 0 0 a1 none c1 0 r1 [] V (K1x.out.sp.below h (Nat.le_refl _)) (KWx.out.sp.below h (Nat.le_refl _)) K1x.out.ml KWx.out.ml)
  rw [decide_eq_true ⟨rfl, HR0.out⟩] at X3
  generalize chk sS lS = CK at *
  go_wp2_with fail
  refine wp_region_quiet_below (by kernel_rfl) (by kernel_rfl) ?_
  repeat (first | go_big_quiet_step ((first | (go_at_call 18; rename_i pp; exact Calls.below_of pp (X1.out _ pp.hb)) | (go_at_call 19; rename_i pp; exact Calls.below_of pp (X2.out _ pp.hb)) | (go_at_call 20; rename_i pp; exact Calls.below_of pp (X3.out _ pp.hb)))) | quiet_step ((first | (go_at_call 18; rename_i pp; exact Calls.below_of pp (X1.out _ pp.hb)) | (go_at_call 19; rename_i pp; exact Calls.below_of pp (X2.out _ pp.hb)) | (go_at_call 20; rename_i pp; exact Calls.below_of pp (X3.out _ pp.hb)))))
  refine wpQuiet_nil ?_
  rintro w9 ⟨pp, hpp⟩
  have b9 := pp.hb
  rw [← hpp] at b9
  clear hpp pp
  have E9 := hid (bel_of EX.out b9)
  clear b9 ps0 ps1 pa0 pa1 pw0 pw1
  go_wp2_with fail
  go_ret
  exact ⟨by first | rfl | simp, E9.out⟩
set_option maxRecDepth 20000 in
set_option maxHeartbeats 4000000 in
theorem makes_large (sS size : Int) (aS a : Option Addr) (cS c : Nat) (lS l : List Sp) (w : World) (spS : Sps w aS lS) (nzS : aS = none → cS = 0) (mlS : lS.length ≤ maxLen) (spL : Sps w a l) (h : 1 ≤ size) (h2 : size ≤ 1000000) (h3 : 200 < l.length) :
    Calls Try.prog 3 #[.agg #[.int .i64 sS, .slice aS lS.length cS], .int .i64 size, .slice a l.length c] w fun e w' => e = .returned (.bool true) ∧ Below w.heap.size w w' := by
  have hE : ofE size l = 2 := by unfold ofE; rw [if_pos ⟨h, h2⟩, if_pos h3]
  have hn : (200 : Int) < (l.length : Int) := by omega
  have HS := hid spL
  have HSS := hid spS
  have KS0 := hid ((Cell.new (s := sS) spS nzS mlS).alloc (.cells #[.slice a l.length c] 22))
  have KL0 : Hid (((w.alloc (.cells #[.int .i64 sS, .slice aS lS.length cS] 24)).alloc (.cells #[.slice a l.length c] 22)).cell? ⟨w.heap.size + 1, 0, none⟩ = some (.slice a l.length c)) := World.cell?_alloc_at _ _ _ _ (by simp)
  have E0 : Hid (Below w.heap.size w ((w.alloc (.cells #[.int .i64 sS, .slice aS lS.length cS] 24)).alloc (.cells #[.slice a l.length c] 22))) := by
    show Below _ _ _
    go_grown
  clear spS spL nzS mlS
  go_enter Try.func3, Try.ntmps3
  go_wp2_with fail
  refine (of_tells (HS.out.below E0.out (Nat.le_refl _))).mono ?_
  rintro e w1 ⟨⟨s1, a1, c1, r1, er1, rfl, hs1, hn1, hm1, hA1⟩, b1⟩
  have QA := hid hA1
  have KS1 := hid (KS0.out.step b1)
  have KL1 := hid ((b1.cell (p := ⟨w.heap.size + 1, 0, none⟩) (by simp)).trans KL0.out)
  have E1 := hid (bel_of E0.out b1)
  have hsz1 : w.heap.size + 2 ≤ w1.heap.size := by have := b1.size; simpa using this
  have K1 := hid (Cell.new (s := s1) hs1 hn1 hm1)
  have HS1 := hid hs1
  clear hA1 hs1 hn1 hm1 b1 KS0 KL0 E0
  obtain ⟨W2, hW2⟩ : ∃ W2, W2 = (w1.alloc (.cells #[.int .i64 s1, .slice a1 r1.length c1] 24)).alloc (.cells #[.int .i64 0, .slice none 0 0] 24) := ⟨_, rfl⟩
  have KSx : Hid (Cell W2 w.heap.size sS aS cS lS) := by rw [hW2]; exact (KS1.out.alloc _).alloc _
  have K1x : Hid (Cell W2 w1.heap.size s1 a1 c1 r1) := by rw [hW2]; exact K1.out.alloc _
  have KWx : Hid (Cell W2 (w1.heap.size + 1) 0 none 0 []) := by rw [hW2]; exact Cell.new' (by simp) (.inl rfl) (fun _ => rfl) (by simp)
  have KLx : Hid (W2.cell? ⟨w.heap.size + 1, 0, none⟩ = some (.slice a l.length c)) := by
    rw [hW2]; exact Lib.cell?_alloc_some _ (Lib.cell?_alloc_some _ KL1.out)
  have EX : Hid (Below w.heap.size w W2) := by rw [hW2]; exact Below.alloc (Below.alloc E1.out E1.out.size _) (by simp; omega) _
  have FW : Hid (W2.frozen? ⟨w1.heap.size + 1, 0, none⟩ = false ∧ W2.frozen? ⟨w1.heap.size + 1, 1, none⟩ = false) := by
    rw [hW2]; exact ⟨World.frozen?_alloc_at _ _ _ _ (by simp), World.frozen?_alloc_at _ _ _ _ (by simp)⟩
  have F1 : Hid (Below w1.heap.size w1 W2) := by rw [hW2]; exact Below.alloc (Below.alloc (Below.refl _ _) (Nat.le_refl _) _) (by simp) _
  clear KS1 KL1 K1 E1
  have hq : er1 = 2 ∧ s1 = 0 ∧ r1 = [] := by
    rcases QA.out with ⟨h, _⟩ | ⟨_, h2, h3, h4⟩
    · rw [hE] at h; simp at h
    · exact ⟨by rw [h2, hE], h3, h4⟩
  obtain ⟨rfl, rfl, hr0⟩ := hq
  have HR0 := hid hr0
  clear QA hE hr0
  have kl := KLx.out
  rw [hW2] at kl
  go_wp2_with fail
  refine (between_yes _ _ _ _ h h2).mono ?_
  rintro e w' ⟨rfl, hw'⟩
  subst hw'
  rw [← hW2] at kl
  rw [← hW2]
  clear hW2
  obtain ⟨_, fs0, fs1, _, _, _⟩ := KSx.out
  obtain ⟨_, fa0, fa1, _, _, _⟩ := K1x.out
  obtain ⟨_, fw0, fw1, _, _, _⟩ := KWx.out
  have ps0 := BelowOf.cell fs0
  have ps1 := BelowOf.cell fs1
  have pa0 := BelowOf.cell fa0
  have pa1 := BelowOf.cell fa1
  have pw0 := BelowOf.cell fw0
  have pw1 := BelowOf.cell fw1
  clear fs0 fs1 fa0 fa1 fw0 fw1
  have X1 := hid (fun V (h : Below W2.heap.size W2 V) => check_any sS aS cS lS V (KSx.out.sp.below h (Nat.le_refl _)))
  have X2 := hid (fun V (h : Below W2.heap.size W2 V) => right_any sS aS cS lS V (KSx.out.sp.below h (Nat.le_refl _)))
  have X3 := hid (fun V (h : Below W2.heap.size W2 V) => same_any 0 0 a1 none c1 0 r1 [] V (K1x.out.sp.below h (Nat.le_refl _)) (KWx.out.sp.below h (Nat.le_refl _)) K1x.out.ml KWx.out.ml)
  rw [decide_eq_true ⟨rfl, HR0.out⟩] at X3
  generalize chk sS lS = CK at *
  go_wp2_with fail
  refine wp_region_quiet_below (by kernel_rfl) (by kernel_rfl) ?_
  repeat (first | go_big_quiet_step ((first | (go_at_call 18; rename_i pp; exact Calls.below_of pp (X1.out _ pp.hb)) | (go_at_call 19; rename_i pp; exact Calls.below_of pp (X2.out _ pp.hb)) | (go_at_call 20; rename_i pp; exact Calls.below_of pp (X3.out _ pp.hb)))) | quiet_step ((first | (go_at_call 18; rename_i pp; exact Calls.below_of pp (X1.out _ pp.hb)) | (go_at_call 19; rename_i pp; exact Calls.below_of pp (X2.out _ pp.hb)) | (go_at_call 20; rename_i pp; exact Calls.below_of pp (X3.out _ pp.hb)))))
  refine wpQuiet_nil ?_
  rintro w9 ⟨pp, hpp⟩
  have b9 := pp.hb
  rw [← hpp] at b9
  clear hpp pp
  have E9 := hid (bel_of EX.out b9)
  clear b9 ps0 ps1 pa0 pa1 pw0 pw1
  go_wp2_with fail
  go_ret
  exact ⟨by first | rfl | simp, E9.out⟩
set_option maxRecDepth 20000 in
set_option maxHeartbeats 4000000 in
theorem makes_list (sS size : Int) (aS a : Option Addr) (cS c : Nat) (lS l : List Sp) (w : World) (spS : Sps w aS lS) (nzS : aS = none → cS = 0) (mlS : lS.length ≤ maxLen) (spL : Sps w a l) (h : 1 ≤ size) (h2 : size ≤ 1000000) (h3 : ¬ 200 < l.length) :
    Calls Try.prog 3 #[.agg #[.int .i64 sS, .slice aS lS.length cS], .int .i64 size, .slice a l.length c] w fun e w' => e = .returned (.bool true) ∧ Below w.heap.size w w' := by
  have hn : ¬ (200 : Int) < (l.length : Int) := by omega
  have HS := hid spL
  have HSS := hid spS
  have KS0 := hid ((Cell.new (s := sS) spS nzS mlS).alloc (.cells #[.slice a l.length c] 22))
  have KL0 : Hid (((w.alloc (.cells #[.int .i64 sS, .slice aS lS.length cS] 24)).alloc (.cells #[.slice a l.length c] 22)).cell? ⟨w.heap.size + 1, 0, none⟩ = some (.slice a l.length c)) := World.cell?_alloc_at _ _ _ _ (by simp)
  have E0 : Hid (Below w.heap.size w ((w.alloc (.cells #[.int .i64 sS, .slice aS lS.length cS] 24)).alloc (.cells #[.slice a l.length c] 22))) := by
    show Below _ _ _
    go_grown
  clear spS spL nzS mlS
  go_enter Try.func3, Try.ntmps3
  go_wp2_with fail
  refine (of_tells (HS.out.below E0.out (Nat.le_refl _))).mono ?_
  rintro e w1 ⟨⟨s1, a1, c1, r1, er1, rfl, hs1, hn1, hm1, hA1⟩, b1⟩
  have QA := hid hA1
  have KS1 := hid (KS0.out.step b1)
  have KL1 := hid ((b1.cell (p := ⟨w.heap.size + 1, 0, none⟩) (by simp)).trans KL0.out)
  have E1 := hid (bel_of E0.out b1)
  have hsz1 : w.heap.size + 2 ≤ w1.heap.size := by have := b1.size; simpa using this
  have K1 := hid (Cell.new (s := s1) hs1 hn1 hm1)
  have HS1 := hid hs1
  clear hA1 hs1 hn1 hm1 b1 KS0 KL0 E0
  obtain ⟨W2, hW2⟩ : ∃ W2, W2 = (w1.alloc (.cells #[.int .i64 s1, .slice a1 r1.length c1] 24)).alloc (.cells #[.int .i64 0, .slice none 0 0] 24) := ⟨_, rfl⟩
  have KSx : Hid (Cell W2 w.heap.size sS aS cS lS) := by rw [hW2]; exact (KS1.out.alloc _).alloc _
  have K1x : Hid (Cell W2 w1.heap.size s1 a1 c1 r1) := by rw [hW2]; exact K1.out.alloc _
  have KWx : Hid (Cell W2 (w1.heap.size + 1) 0 none 0 []) := by rw [hW2]; exact Cell.new' (by simp) (.inl rfl) (fun _ => rfl) (by simp)
  have KLx : Hid (W2.cell? ⟨w.heap.size + 1, 0, none⟩ = some (.slice a l.length c)) := by
    rw [hW2]; exact Lib.cell?_alloc_some _ (Lib.cell?_alloc_some _ KL1.out)
  have EX : Hid (Below w.heap.size w W2) := by rw [hW2]; exact Below.alloc (Below.alloc E1.out E1.out.size _) (by simp; omega) _
  have FW : Hid (W2.frozen? ⟨w1.heap.size + 1, 0, none⟩ = false ∧ W2.frozen? ⟨w1.heap.size + 1, 1, none⟩ = false) := by
    rw [hW2]; exact ⟨World.frozen?_alloc_at _ _ _ _ (by simp), World.frozen?_alloc_at _ _ _ _ (by simp)⟩
  have F1 : Hid (Below w1.heap.size w1 W2) := by rw [hW2]; exact Below.alloc (Below.alloc (Below.refl _ _) (Nat.le_refl _) _) (by simp) _
  clear KS1 KL1 K1 E1
  have kl := KLx.out
  rw [hW2] at kl
  go_wp2_with fail
  refine (between_yes _ _ _ _ h h2).mono ?_
  rintro e w' ⟨rfl, hw'⟩
  subst hw'
  rw [← hW2] at kl
  rw [← hW2]
  clear hW2
  go_wp2_with fail
  go_loopw [10, 22] (fun v10 v22 wr => ∃ (k : Nat) (sy : Int), k ≤ l.length ∧ v10 = .int .i64 sy ∧ v22 = .int .i64 k ∧ Hid (sy = ofG size (l.take k)) ∧ Below W2.heap.size W2 wr) (fun _ v22 _ => l.length - (intOf v22).toNat)
  case atStart => exact ⟨0, 0, by omega, rfl, rfl, rfl, Below.refl _ _⟩
  case round =>
    obtain ⟨k, sy, hk, rfl, rfl, hg, hb⟩ := hrel
    have HB := hid hb
    have hszr := hb.size
    by_cases hlt : k < l.length
    · obtain ⟨b, off, rfl, hbw, d1, d2⟩ := (HS.out.below (bel_of EX.out hb) (Nat.le_refl _)).at k hlt
      have hd := take_snoc l k hlt
      have HLT := hid hlt
      clear hb
      generalize l.getD k (0, 0) = z at d1 d2 hd
      obtain ⟨f, t⟩ := z
      simp only at d1 d2
      have hsn : ofG size (l.take (k + 1)) = if fit size (f, t) = true then sy else 4 := by rw [hd, ofG_snoc, ← hg.out]
      have HSN := hid hsn
      clear hd hsn
      have C : (0 ≤ f ∧ f ≤ t ∧ t ≤ size) ∨ ¬ (0 ≤ f ∧ f ≤ t) ∨ (0 ≤ f ∧ f ≤ t ∧ size < t) := by omega
      rcases C with ⟨o1, o2, o3⟩ | o1 | ⟨o1, o2, o3⟩
      · have HF : Hid (sy = ofG size (l.take (k + 1))) := by
          show _ = _
          rw [HSN.out, if_pos ((fit_iff size (f, t)).2 ⟨o1, o2, o3⟩)]
        go_wp2_with fail
        refine (between_yes _ _ _ _ o1 o2).mono ?_
        rintro e w' ⟨rfl, rfl⟩
        go_wp2_with fail
        go_roundw
        case rel => exact ⟨k + 1, sy, by have := HLT.out; omega, rfl, by go_num, HF, Below.alloc HB.out hszr _⟩
        case measure => have := HLT.out; simp [intOf]; omega
      · have HF : Hid (4 = ofG size (l.take (k + 1))) := by
          show _ = _
          rw [HSN.out, if_neg]
          intro hh
          have := (fit_iff size (f, t)).1 hh
          simp only at this
          omega
        go_wp2_with fail
        refine (between_no _ _ _ _ o1).mono ?_
        rintro e w' ⟨rfl, rfl⟩
        go_wp2_with fail
        go_roundw
        case rel => exact ⟨k + 1, 4, by have := HLT.out; omega, rfl, by go_num, HF, Below.alloc HB.out hszr _⟩
        case measure => have := HLT.out; simp [intOf]; omega
      · have HF : Hid (4 = ofG size (l.take (k + 1))) := by
          show _ = _
          rw [HSN.out, if_neg]
          intro hh
          have := (fit_iff size (f, t)).1 hh
          simp only at this
          omega
        go_wp2_with fail
        refine (between_yes _ _ _ _ o1 o2).mono ?_
        rintro e w' ⟨rfl, rfl⟩
        go_wp2_with fail
        go_roundw
        case rel => exact ⟨k + 1, 4, by have := HLT.out; omega, rfl, by go_num, HF, Below.alloc HB.out hszr _⟩
        case measure => have := HLT.out; simp [intOf]; omega
    · have he : l.take k = l := List.take_of_length_le (by omega)
      rw [he] at hg
      have hgE : ofE size l = ofG size l := by unfold ofE; rw [if_pos ⟨h, h2⟩, if_neg (by omega)]
      have KSy := hid (KSx.out.step hb)
      have K1y := hid (K1x.out.step hb)
      have KWy := hid (KWx.out.step hb)
      have EY := hid (bel_of EX.out hb)
      have KLy := hid ((hb.cell (World.block_lt_of_cell? W2 _ KLx.out)).trans KLx.out)
      have FWy : Hid (wr.frozen? ⟨w1.heap.size + 1, 0, none⟩ = false ∧ wr.frozen? ⟨w1.heap.size + 1, 1, none⟩ = false) := ⟨(hb.frozen KWx.out.lt).trans FW.out.1, (hb.frozen KWx.out.lt).trans FW.out.2⟩
      have KS2 := KSx
      have K12 := K1x
      have ECr := hid (hb.mono (show w1.heap.size + 1 ≤ W2.heap.size from Nat.le_of_lt KWx.out.lt))
      clear KSx K1x KWx EX KLx FW kl hb he
      have KSx := KSy
      have K1x := K1y
      have KWx := KWy
      have EX := EY
      clear KSy K1y KWy EY
      by_cases hz : ofE size l = 0
      · have hsy : sy = 0 := by rw [hg.out, ← hgE, hz]
        subst hsy
        have hq : er1 = 0 ∧ s1 = size ∧ chk size r1 = 0 ∧ ∀ u, mem r1 u = mem l u := by
          rcases QA.out with ⟨_, h1, h2, h3, h4⟩ | ⟨hh, _⟩
          · exact ⟨h1, h2, h3, h4⟩
          · exact absurd hz hh
        obtain ⟨rfl, hs0, hc1, hm1⟩ := hq
        replace hs0 := hs0.symm
        subst hs0
        obtain ⟨_, _, hlen, hfits⟩ := ofE_zero hz
        have HC1 := hid hc1
        have HM1 := hid hm1
        have HFT := hid hfits
        clear QA hg hgE hz hc1 hm1 hfits
        have kl := KLy.out
        go_wp2_with fail
        refine (edgesOf_any wr.heap.size 1 [(a, c, l)] _ ?lists ?bd (by simp)).mono ?_
        case lists =>
          intro i x hx
          match i, hx with
          | 0, hx => simp at hx; subst hx; exact ⟨World.cell?_alloc_at _ _ _ _ rfl, HS.out.below (Below.alloc EX.out EX.out.size _) (Nat.le_refl _)⟩
          | i + 1, hx => simp at hx
        case bd => simp [allOf]; omega
        have eall : allOf [(a, c, l)] = l := by simp [allOf]
        rw [eall]
        clear eall
        rintro e w5 ⟨⟨v5, rfl, ho5⟩, b5⟩
        have O5 := hid ho5
        have KS5 := hid ((KSx.out.alloc _).step b5)
        have K15 := hid ((K1x.out.alloc _).step b5)
        have KW5 := hid ((KWx.out.alloc _).step b5)
        have E5 := hid (bel_of (Below.alloc EX.out EX.out.size _) b5)
        have EC5 := hid ((Below.alloc ECr.out (Nat.le_of_lt KWx.out.lt) _).trans (b5.mono (by have := KWx.out.lt; simp; omega)))
        have KL5 := hid ((b5.cell (World.block_lt_of_cell? _ _ (Lib.cell?_alloc_some _ KLy.out))).trans (Lib.cell?_alloc_some _ KLy.out))
        have FW5 : Hid (w5.frozen? ⟨w1.heap.size + 1, 0, none⟩ = false ∧ w5.frozen? ⟨w1.heap.size + 1, 1, none⟩ = false) := ⟨(b5.frozen (by have := KWx.out.lt; simp; omega)).trans ((World.frozen?_alloc_past _ _ _ KWx.out.lt).trans FWy.out.1), (b5.frozen (by have := KWx.out.lt; simp; omega)).trans ((World.frozen?_alloc_past _ _ _ KWx.out.lt).trans FWy.out.2)⟩
        obtain ⟨p5, n5, q5, hv5⟩ := ho5.slice
        subst hv5
        clear ho5 b5 KSx K1x KWx EX
        have SO := hid (setOf_any size (.slice p5 n5 q5) (edges l) _ 16 #[.pointer (some ⟨w.heap.size + 1, 0, none⟩)] (mem l) w5 h h2 O5.out (by rw [edges_length]; omega) (enters_of Try.func16 (by kernel_rfl) rfl) (ask_makes (w.heap.size + 1) a c l w5 KL5.out (HS.out.below E5.out (Nat.le_refl _)) (by unfold maxLen; omega)) (fun c u _ h1 _ h3 => mem_same h1 h3))
        go_wp2_with fail
        refine (SO.out).mono ?_
        rintro e w6 ⟨⟨v6, r6, rfl, ho6, hg6, hm6⟩, b6⟩
        have hr6 : r6 = r1 := by
          refine unique hg6 (chk_zero HC1.out).2.2.2 fun u => ?_
          rw [hm6 u, HM1.out u]
          cases hmu : mem l u with
          | false => simp
          | true =>
            obtain ⟨x, hx, x1, x2⟩ := (mem_iff _ _).1 hmu
            have := HFT.out x hx
            rw [decide_eq_true (by omega)]; rfl
        subst hr6
        have KS6 := hid (KS5.out.step b6)
        have K16 := hid (K15.out.step b6)
        have KW6 := hid (KW5.out.step b6)
        have E6 := hid (bel_of E5.out b6)
        have EC6 := hid (EC5.out.trans (b6.mono (Nat.le_of_lt KW5.out.lt)))
        have hR5 := KW5.out.lt
        have FW6 : Hid (w6.frozen? ⟨w1.heap.size + 1, 0, none⟩ = false ∧ w6.frozen? ⟨w1.heap.size + 1, 1, none⟩ = false) := ⟨(b6.frozen KW5.out.lt).trans FW5.out.1, (b6.frozen KW5.out.lt).trans FW5.out.2⟩
        have OW6 := hid ho6
        obtain ⟨aw, cw, hv6, _, nzw, mlw⟩ := ho6.full
        subst hv6
        have NZW := hid nzw
        have MLW := hid mlw
        clear ho6 hg6 hm6 b6 nzw mlw KS5 K15 E5 KL5 FW5 SO O5
        obtain ⟨W7, hW7⟩ : ∃ W7, W7 = (w6.setCell ⟨w1.heap.size + 1, 0, none⟩ (.int .i64 size)).setCell ⟨w1.heap.size + 1, 1, none⟩ (.slice aw r6.length cw) := ⟨_, rfl⟩
        have EC7 : Hid (Below (w1.heap.size + 1) W2 W7) := by rw [hW7]; exact Below.setCell (Below.setCell EC6.out (by simp) _) (by simp) _
        have EX : Hid (Below w.heap.size w W7) := by rw [hW7]; exact Below.setCell (Below.setCell E6.out (by simp; omega) _) (by simp; omega) _
        have F7 : Hid (Below w1.heap.size w1 W7) := F1.out.trans (EC7.out.mono (by omega))
        have hsz7 : w6.heap.size ≤ W7.heap.size := by rw [hW7]; simp [World.setCell]
        have KSx : Hid (Cell W7 w.heap.size sS aS cS lS) := ⟨Nat.lt_of_lt_of_le KS6.out.lt hsz7, (EC7.out.cell (by simp; omega)).trans KS2.out.c0, (EC7.out.cell (by simp; omega)).trans KS2.out.c1, HSS.out.below EX.out (Nat.le_refl _), KS2.out.nz, KS2.out.ml⟩
        have K1x : Hid (Cell W7 w1.heap.size size a1 c1 r6) := ⟨Nat.lt_of_lt_of_le K16.out.lt hsz7, (EC7.out.cell (by simp)).trans K12.out.c0, (EC7.out.cell (by simp)).trans K12.out.c1, HS1.out.below F7.out (Nat.le_refl _), K12.out.nz, K12.out.ml⟩
        have OW7 : Hid (Own W7 w5.heap.size (.slice aw r6.length cw) r6) := by rw [hW7]; exact ownsRow_setCell_below (ownsRow_setCell_below OW6.out (by simpa using hR5) _) (by simpa using hR5) _
        have SP7 : Hid (Sps W7 aw r6) := by
          obtain ⟨a', c', e', h', _⟩ := OW7.out.full
          simp only [Value.slice.injEq] at e'
          rw [e'.1]; exact h'
        have KWx : Hid (Cell W7 (w1.heap.size + 1) size aw cw r6) := by
          refine ⟨Nat.lt_of_lt_of_le KW6.out.lt hsz7, ?_, ?_, SP7.out, NZW.out, MLW.out⟩
          · rw [hW7]; exact (World.cell?_setCell_other _ _ _ _ (by simp)).trans (World.cell?_setCell_same _ _ _ KW6.out.c0)
          · rw [hW7]; exact World.cell?_setCell_same _ _ _ ((World.cell?_setCell_other _ _ _ _ (by simp)).trans KW6.out.c1)
        obtain ⟨_, g0, g1, _, _, _⟩ := KW6.out
        obtain ⟨h0', h1'⟩ := FW6.out
        go_wp2_with fail
        rw [← hW7]
        clear hW7 g0 g1 h0' h1' KS6 K16 KW6 E6 EC5 EC6
        obtain ⟨_, fs0, fs1, _, _, _⟩ := KSx.out
        obtain ⟨_, fa0, fa1, _, _, _⟩ := K1x.out
        obtain ⟨_, fw0, fw1, _, _, _⟩ := KWx.out
        have ps0 := BelowOf.cell fs0
        have ps1 := BelowOf.cell fs1
        have pa0 := BelowOf.cell fa0
        have pa1 := BelowOf.cell fa1
        have pw0 := BelowOf.cell fw0
        have pw1 := BelowOf.cell fw1
        clear fs0 fs1 fa0 fa1 fw0 fw1
        have X1 := hid (fun V (h : Below W7.heap.size W7 V) => check_any sS aS cS lS V (KSx.out.sp.below h (Nat.le_refl _)))
        have X2 := hid (fun V (h : Below W7.heap.size W7 V) => right_any sS aS cS lS V (KSx.out.sp.below h (Nat.le_refl _)))
        have X3 := hid (fun V (h : Below W7.heap.size W7 V) => same_any size size a1 aw c1 cw r6 r6 V (K1x.out.sp.below h (Nat.le_refl _)) (KWx.out.sp.below h (Nat.le_refl _)) K1x.out.ml KWx.out.ml)
        rw [decide_eq_true ⟨rfl, rfl⟩] at X3
        generalize chk sS lS = CK at *
        refine wp_region_quiet_below (by kernel_rfl) (by kernel_rfl) ?_
        repeat (first | go_big_quiet_step ((first | (go_at_call 18; rename_i pp; exact Calls.below_of pp (X1.out _ pp.hb)) | (go_at_call 19; rename_i pp; exact Calls.below_of pp (X2.out _ pp.hb)) | (go_at_call 20; rename_i pp; exact Calls.below_of pp (X3.out _ pp.hb)))) | quiet_step ((first | (go_at_call 18; rename_i pp; exact Calls.below_of pp (X1.out _ pp.hb)) | (go_at_call 19; rename_i pp; exact Calls.below_of pp (X2.out _ pp.hb)) | (go_at_call 20; rename_i pp; exact Calls.below_of pp (X3.out _ pp.hb)))))
        refine wpQuiet_nil ?_
        rintro w9 ⟨pp, hpp⟩
        have b9 := pp.hb
        rw [← hpp] at b9
        clear hpp pp
        have E9 := hid (bel_of EX.out b9)
        clear b9 ps0 ps1 pa0 pa1 pw0 pw1
        go_wp2_with fail
        go_ret
        exact ⟨by first | rfl | simp, E9.out⟩
      · have hE : ofE size l = 4 := by
          rw [hgE]
          have hz' := hz
          rw [hgE] at hz'
          unfold ofG at hz' ⊢
          split
          · rename_i hh; rw [if_pos hh] at hz'; exact absurd rfl hz'
          · rfl
        have hsy : sy = 4 := by rw [hg.out, ← hgE, hE]
        subst hsy
        have hq : er1 = 4 ∧ s1 = 0 ∧ r1 = [] := by
          rcases QA.out with ⟨hh, _⟩ | ⟨_, h2, h3, h4⟩
          · rw [hE] at hh; simp at hh
          · exact ⟨by rw [h2, hE], h3, h4⟩
        obtain ⟨rfl, rfl, hr0⟩ := hq
        have HR0 := hid hr0
        clear QA hE hr0 hg hgE hz
        go_wp2_with fail
        obtain ⟨_, fs0, fs1, _, _, _⟩ := KSx.out
        obtain ⟨_, fa0, fa1, _, _, _⟩ := K1x.out
        obtain ⟨_, fw0, fw1, _, _, _⟩ := KWx.out
        have ps0 := BelowOf.cell fs0
        have ps1 := BelowOf.cell fs1
        have pa0 := BelowOf.cell fa0
        have pa1 := BelowOf.cell fa1
        have pw0 := BelowOf.cell fw0
        have pw1 := BelowOf.cell fw1
        clear fs0 fs1 fa0 fa1 fw0 fw1
        have X1 := hid (fun V (h : Below wr.heap.size wr V) => check_any sS aS cS lS V (KSx.out.sp.below h (Nat.le_refl _)))
        have X2 := hid (fun V (h : Below wr.heap.size wr V) => right_any sS aS cS lS V (KSx.out.sp.below h (Nat.le_refl _)))
        have X3 := hid (fun V (h : Below wr.heap.size wr V) => same_any 0 0 a1 none c1 0 r1 [] V (K1x.out.sp.below h (Nat.le_refl _)) (KWx.out.sp.below h (Nat.le_refl _)) K1x.out.ml KWx.out.ml)
        rw [decide_eq_true ⟨rfl, HR0.out⟩] at X3
        generalize chk sS lS = CK at *
        refine wp_region_quiet_below (by kernel_rfl) (by kernel_rfl) ?_
        repeat (first | go_big_quiet_step ((first | (go_at_call 18; rename_i pp; exact Calls.below_of pp (X1.out _ pp.hb)) | (go_at_call 19; rename_i pp; exact Calls.below_of pp (X2.out _ pp.hb)) | (go_at_call 20; rename_i pp; exact Calls.below_of pp (X3.out _ pp.hb)))) | quiet_step ((first | (go_at_call 18; rename_i pp; exact Calls.below_of pp (X1.out _ pp.hb)) | (go_at_call 19; rename_i pp; exact Calls.below_of pp (X2.out _ pp.hb)) | (go_at_call 20; rename_i pp; exact Calls.below_of pp (X3.out _ pp.hb)))))
        refine wpQuiet_nil ?_
        rintro w9 ⟨pp, hpp⟩
        have b9 := pp.hb
        rw [← hpp] at b9
        clear hpp pp
        have E9 := hid (bel_of EX.out b9)
        clear b9 ps0 ps1 pa0 pa1 pw0 pw1
        go_wp2_with fail
        go_ret
        exact ⟨by first | rfl | simp, E9.out⟩
theorem spanMakes_walk (sS : Int) (aS : Option Addr) (lenS cS : Nat) (lS : List Sp) (size : Int) (a : Option Addr) (len c : Nat) (l : List Sp) (w : World) (h1 : wf64 sS) (h2 : IsSps w aS lenS cS lS) (h3 : wf64 size) (h4 : IsSps w a len c l) :
    Calls Try.prog 3 #[.agg #[.int .i64 sS, .slice aS lenS cS], .int .i64 size, .slice a len c] w fun e w' => e = .returned (.bool true) ∧ Below w.heap.size w w' := by
  obtain ⟨rfl, x1, x2, x3, x4, _⟩ := h2
  obtain ⟨rfl, y1, y2, y3, y4, _⟩ := h4
  by_cases hs : 1 ≤ size ∧ size ≤ 1000000
  · by_cases hl : 200 < l.length
    · exact makes_large sS size aS a cS c lS l w x3 (fun h => (x4 h).2) (Nat.le_trans x1 x2) y3 hs.1 hs.2 hl
    · exact makes_list sS size aS a cS c lS l w x3 (fun h => (x4 h).2) (Nat.le_trans x1 x2) y3 hs.1 hs.2 hl
  · exact makes_arg sS size aS a cS c lS l w x3 (fun h => (x4 h).2) (Nat.le_trans x1 x2) y3 hs
end SpanC
end Go.Proofs.Ytlhkjdghefbnfaa
