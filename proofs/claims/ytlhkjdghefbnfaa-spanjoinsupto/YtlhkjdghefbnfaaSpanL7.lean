/- The walk of SpanJoins. -/
import Derived.Test.YtlhkjdghefbnfaaSpanP
import Derived.Test.YtlhkjdghefbnfaaSpanO
import Derived.Deep.RegionWith
import Derived.BigQuiet
set_option linter.unusedVariables false
namespace Go.Proofs.Ytlhkjdghefbnfaa
open Go.RowKit
open SpanM
namespace SpanC
/-- the law's variables, and the edges in their box -/
structure JW (V : World) (bA bE Bv : Nat) (s1 s2 : Int) (a1 a2 : Option Addr) (c1 c2 : Nat) (l1 l2 : List Sp) (ve : Value) (es : List Int) : Prop where
  ka : Cell V bA s1 a1 c1 l1
  kb : Cell V (bA + 1) s2 a2 c2 l2
  ce : V.cell? ⟨bE, 0, none⟩ = some ve
  oe : OwnI V Bv ve es
  le : es.length ≤ 8000000
  e1 : ∀ y ∈ edges l1, y ∈ es
  e2 : ∀ y ∈ edges l2, y ∈ es
theorem JW.step {V V' : World} {bA bE Bv : Nat} {s1 s2 : Int} {a1 a2 : Option Addr} {c1 c2 : Nat} {l1 l2 : List Sp} {ve : Value} {es : List Int} (h : JW V bA bE Bv s1 s2 a1 a2 c1 c2 l1 l2 ve es) (hb : Below V.heap.size V V') : JW V' bA bE Bv s1 s2 a1 a2 c1 c2 l1 l2 ve es :=
  ⟨h.ka.step hb, h.kb.step hb, (hb.cell (World.block_lt_of_cell? V _ h.ce)).trans h.ce, h.oe.below hb (Nat.le_refl _), h.le, h.e1, h.e2⟩
theorem JW.alloc {V : World} {bA bE Bv : Nat} {s1 s2 : Int} {a1 a2 : Option Addr} {c1 c2 : Nat} {l1 l2 : List Sp} {ve : Value} {es : List Int} (h : JW V bA bE Bv s1 s2 a1 a2 c1 c2 l1 l2 ve es) (o : Obj) : JW (V.alloc o) bA bE Bv s1 s2 a1 a2 c1 c2 l1 l2 ve es :=
  h.step (Below.alloc (Below.refl _ _) (Nat.le_refl _) _)
theorem told_not {V : World} {bA bE Bv bX : Nat} {s1 s2 : Int} {a1 a2 : Option Addr} {c1 c2 : Nat} {l1 l2 : List Sp} {ve : Value} {es : List Int} {s e : Int} {a : Option Addr} {c : Nat} {r : List Sp} (h : JW V bA bE Bv s1 s2 a1 a2 c1 c2 l1 l2 ve es) (k : Cell V bX s a c r) (hA : JAns s1 (chk s1 l1) (notP s1 l1) s r e) :
    Calls Try.prog 21 #[.agg #[.int .i64 s, .slice a r.length c], .int .i64 e, .int .i64 (chk s1 l1), .func (.func 23) #[] #[.pointer (some ⟨bA, 0, none⟩)], .pointer (some ⟨bA, 0, none⟩), .pointer (some ⟨bE, 0, none⟩)] V fun e w' => e = .returned (.bool true) ∧ Below V.heap.size V w' := by
  refine told_any V bA bE Bv s1 a1 c1 l1 ve es s e (chk s1 l1) a c r 23 #[.pointer (some ⟨bA, 0, none⟩)] (notP s1 l1) (fun t => !mem l1 t) h.ka h.ce h.oe h.le k.sp k.nz k.ml hA (enters_of Try.func23 (by kernel_rfl) rfl) (ask_not _ _ _ _ _ _ h.ka) ?_ ?_
  · intro x u _ hxu _ hy
    show (!mem l1 u) = (!mem l1 x)
    rw [mem_same hxu fun y hm => hy y (h.e1 y hm)]
  · intro hE t
    rfl
theorem told_both {V : World} {bA bE Bv bX : Nat} {s1 s2 : Int} {a1 a2 : Option Addr} {c1 c2 : Nat} {l1 l2 : List Sp} {ve : Value} {es : List Int} {s e : Int} {a : Option Addr} {c : Nat} {r : List Sp} (h : JW V bA bE Bv s1 s2 a1 a2 c1 c2 l1 l2 ve es) (k : Cell V bX s a c r) (hA : JAns s1 (chk2 s1 l1 s2 l2) (fun t => mem l1 t && mem l2 t) s r e) :
    Calls Try.prog 21 #[.agg #[.int .i64 s, .slice a r.length c], .int .i64 e, .int .i64 (chk2 s1 l1 s2 l2), .func (.func 26) #[] #[.pointer (some ⟨bA, 0, none⟩), .pointer (some ⟨bA + 1, 0, none⟩)], .pointer (some ⟨bA, 0, none⟩), .pointer (some ⟨bE, 0, none⟩)] V fun e w' => e = .returned (.bool true) ∧ Below V.heap.size V w' := by
  refine told_any V bA bE Bv s1 a1 c1 l1 ve es s e (chk2 s1 l1 s2 l2) a c r 26 #[.pointer (some ⟨bA, 0, none⟩), .pointer (some ⟨bA + 1, 0, none⟩)] (fun t => mem l1 t && mem l2 t) (fun t => mem l1 t && mem l2 t) h.ka h.ce h.oe h.le k.sp k.nz k.ml hA (enters_of Try.func26 (by kernel_rfl) rfl) (ask_both _ _ _ _ _ _ _ _ _ _ _ h.ka h.kb) ?_ ?_
  · intro x u _ hxu _ hy
    show (mem l1 u && mem l2 u) = (mem l1 x && mem l2 x)
    rw [mem_same hxu fun y hm => hy y (h.e1 y hm), mem_same hxu fun y hm => hy y (h.e2 y hm)]
  · intro hE t
    obtain ⟨k1, k2, rfl⟩ := chk2_zero hE
    show (decide (0 ≤ t ∧ t < s1) && (mem l1 t && mem l2 t)) = (mem l1 t && mem l2 t)
    have r1 := chk_range k1 t
    have r2 := chk_range k2 t
    cases hm1 : mem l1 t <;> cases hm2 : mem l2 t <;> rw [hm1] at r1 <;> rw [hm2] at r2 <;> simp at r1 r2 ⊢ <;> (try simpa using r1) <;> (try simpa using r2)
theorem told_either {V : World} {bA bE Bv bX : Nat} {s1 s2 : Int} {a1 a2 : Option Addr} {c1 c2 : Nat} {l1 l2 : List Sp} {ve : Value} {es : List Int} {s e : Int} {a : Option Addr} {c : Nat} {r : List Sp} (h : JW V bA bE Bv s1 s2 a1 a2 c1 c2 l1 l2 ve es) (k : Cell V bX s a c r) (hA : JAns s1 (chk2 s1 l1 s2 l2) (fun t => mem l1 t || mem l2 t) s r e) :
    Calls Try.prog 21 #[.agg #[.int .i64 s, .slice a r.length c], .int .i64 e, .int .i64 (chk2 s1 l1 s2 l2), .func (.func 27) #[] #[.pointer (some ⟨bA, 0, none⟩), .pointer (some ⟨bA + 1, 0, none⟩)], .pointer (some ⟨bA, 0, none⟩), .pointer (some ⟨bE, 0, none⟩)] V fun e w' => e = .returned (.bool true) ∧ Below V.heap.size V w' := by
  refine told_any V bA bE Bv s1 a1 c1 l1 ve es s e (chk2 s1 l1 s2 l2) a c r 27 #[.pointer (some ⟨bA, 0, none⟩), .pointer (some ⟨bA + 1, 0, none⟩)] (fun t => mem l1 t || mem l2 t) (fun t => mem l1 t || mem l2 t) h.ka h.ce h.oe h.le k.sp k.nz k.ml hA (enters_of Try.func27 (by kernel_rfl) rfl) (ask_either _ _ _ _ _ _ _ _ _ _ _ h.ka h.kb) ?_ ?_
  · intro x u _ hxu _ hy
    show (mem l1 u || mem l2 u) = (mem l1 x || mem l2 x)
    rw [mem_same hxu fun y hm => hy y (h.e1 y hm), mem_same hxu fun y hm => hy y (h.e2 y hm)]
  · intro hE t
    obtain ⟨k1, k2, rfl⟩ := chk2_zero hE
    show (decide (0 ≤ t ∧ t < s1) && (mem l1 t || mem l2 t)) = (mem l1 t || mem l2 t)
    have r1 := chk_range k1 t
    have r2 := chk_range k2 t
    cases hm1 : mem l1 t <;> cases hm2 : mem l2 t <;> rw [hm1] at r1 <;> rw [hm2] at r2 <;> simp at r1 r2 ⊢ <;> (try simpa using r1) <;> (try simpa using r2)
set_option maxRecDepth 20000 in
set_option maxHeartbeats 4000000 in
theorem joins_any (s1 s2 : Int) (a1 a2 : Option Addr) (c1 c2 : Nat) (l1 l2 : List Sp) (w : World) (sp1 : Sps w a1 l1) (nz1 : a1 = none → c1 = 0) (ml1 : l1.length ≤ maxLen) (sp2 : Sps w a2 l2) (nz2 : a2 = none → c2 = 0) (ml2 : l2.length ≤ maxLen) (hb1 : l1.length ≤ 1048576) (hb2 : l2.length ≤ 1048576) :
    Calls Try.prog 4 #[.agg #[.int .i64 s1, .slice a1 l1.length c1], .agg #[.int .i64 s2, .slice a2 l2.length c2]] w fun e w' => e = .returned (.bool true) ∧ Below w.heap.size w w' := by
  obtain ⟨Wl, hWl⟩ : ∃ Wl, Wl = ((w.alloc (.cells #[.int .i64 s1, .slice a1 l1.length c1] 24)).alloc (.cells #[.int .i64 s2, .slice a2 l2.length c2] 24)).alloc (.cells #[.slice a1 l1.length c1, .slice a2 l2.length c2] 22) := ⟨_, rfl⟩
  have E0 : Hid (Below w.heap.size w Wl) := by rw [hWl]; show Below _ _ _; go_grown
  have KA0 : Hid (Cell Wl w.heap.size s1 a1 c1 l1) := by rw [hWl]; exact ((Cell.new (s := s1) sp1 nz1 ml1).alloc _).alloc _
  have KB0 : Hid (Cell Wl (w.heap.size + 1) s2 a2 c2 l2) := by
    rw [hWl]
    exact (Cell.new' (b := w.heap.size + 1) (s := s2) (by simp) (sp2.below (Below.alloc (Below.refl _ _) (Nat.le_refl _) _) (Nat.le_refl _)) nz2 ml2).alloc _
  have HL : Hid (Lists Wl (w.heap.size + 2) [(a1, c1, l1), (a2, c2, l2)]) := by
    intro i y hy
    match i, hy with
    | 0, hy => simp at hy; subst hy; exact ⟨by rw [hWl]; exact World.cell?_alloc_at _ _ _ _ (by simp), sp1.below E0.out (Nat.le_refl _)⟩
    | 1, hy => simp at hy; subst hy; exact ⟨by rw [hWl]; exact World.cell?_alloc_at _ _ _ _ (by simp), sp2.below E0.out (Nat.le_refl _)⟩
    | i + 2, hy => simp at hy
  have hall : allOf [(a1, c1, l1), (a2, c2, l2)] = l1 ++ l2 := by simp [allOf]
  have HED := edgesOf_any (w.heap.size + 2) 2 [(a1, c1, l1), (a2, c2, l2)] Wl HL.out (by rw [hall]; simp; omega) (by simp)
  rw [hall] at HED
  change Calls Try.prog 15 #[.slice (some ⟨w.heap.size + 2, 0, none⟩) 2 2] Wl _ at HED
  have hes : (edges (l1 ++ l2)).length ≤ 8000000 := by rw [edges_length]; simp; omega
  have HES := hid hes
  have M1 : Hid (∀ y ∈ edges l1, y ∈ edges (l1 ++ l2)) := by intro y hy; rw [edges_append]; simp [hy]
  have M2 : Hid (∀ y ∈ edges l2, y ∈ edges (l1 ++ l2)) := by intro y hy; rw [edges_append]; simp [hy]
  generalize edges (l1 ++ l2) = es at HED HES M1 M2
  have HE := hid HED
  obtain ⟨CK, hCK⟩ : ∃ CK, CK = chk s1 l1 := ⟨_, rfl⟩
  obtain ⟨CB, hCB⟩ : ∃ CB, CB = chk s2 l2 := ⟨_, rfl⟩
  obtain ⟨C2, hC2⟩ : ∃ C2, C2 = chk2 s1 l1 s2 l2 := ⟨_, rfl⟩
  have HCK := hid hCK
  have HCB := hid hCB
  have HC2 := hid hC2
  have HWl := hid hWl
  clear HED hes hall sp1 nz1 ml1 sp2 nz2 ml2 hb1 hb2 HL hCK hCB hC2 hWl
  go_enter Try.func4, Try.ntmps4
  go_wp2_with fail
  rw [← HWl.out]
  refine HE.out.mono ?_
  rintro e w1 ⟨⟨ve, rfl, hoe⟩, b1⟩
  have E1 := hid (bel_of E0.out b1)
  obtain ⟨W2, hW2⟩ : ∃ W2, W2 = w1.alloc (.cells #[ve] 32) := ⟨_, rfl⟩
  have J2 : Hid (JW W2 w.heap.size w1.heap.size Wl.heap.size s1 s2 a1 a2 c1 c2 l1 l2 ve es) := by
    rw [hW2]
    have hg : Below w1.heap.size w1 (w1.alloc (.cells #[ve] 32)) := Below.alloc (Below.refl _ _) (Nat.le_refl _) _
    exact ⟨(KA0.out.step b1).step hg, (KB0.out.step b1).step hg, World.cell?_alloc_at _ _ _ _ rfl, hoe.below hg (Nat.le_refl _), HES.out, M1.out, M2.out⟩
  have E2 : Hid (Below w.heap.size w W2) := by rw [hW2]; exact Below.alloc E1.out E1.out.size _
  obtain ⟨_, f0, f1, _, _, _⟩ := KA0.out.step b1
  obtain ⟨pv, nv, cv, hv⟩ := hoe.slice
  subst hv
  have HW2 := hid hW2
  clear hoe b1 E0 KA0 KB0 HES M1 M2 HE HWl hW2 E1
  go_wp2_with fail
  rw [← HW2.out]
  refine (not_j J2.out.ka).mono ?_
  rintro e w3 ⟨⟨sx, ax, cx, rx, ex, rfl, hs, hn, hm, hA⟩, b3⟩
  rw [← HCK.out] at hA
  have QA := hid hA
  obtain ⟨W4, hW4⟩ : ∃ W4, W4 = w3.alloc (.cells #[.int .i64 sx, .slice ax rx.length cx] 24) := ⟨_, rfl⟩
  have J4 : Hid (JW W4 w.heap.size w1.heap.size Wl.heap.size s1 s2 a1 a2 c1 c2 l1 l2 (.slice pv nv cv) es) := by rw [hW4]; exact (J2.out.step b3).alloc _
  have KX : Hid (Cell W4 w3.heap.size sx ax cx rx) := by rw [hW4]; exact Cell.new hs hn hm
  have E4 : Hid (Below w.heap.size w W4) := by rw [hW4]; exact Below.alloc (bel_of E2.out b3) (bel_of E2.out b3).size _
  have HW4 := hid hW4
  clear hA hs hn hm b3 E2 J2 HW2 hW4 f0 f1
  go_wp2_with fail
  rw [← HW4.out]
  obtain ⟨_, f0, f1, _, _, _⟩ := J4.out.ka
  obtain ⟨_, f2, f3, _, _, _⟩ := KX.out
  have p0 := BelowOf.cell f0
  have p1 := BelowOf.cell f1
  have p2 := BelowOf.cell f2
  have p3 := BelowOf.cell f3
  clear f0 f1 f2 f3 HW4
  have X1 := hid (fun V (h : Below W4.heap.size W4 V) => right_any s1 a1 c1 l1 V (J4.out.step h).ka.sp)
  rw [← HCK.out] at X1
  have X2 := hid (fun V (h : Below W4.heap.size W4 V) => told_not (J4.out.step h) (KX.out.step h) (by rw [← HCK.out]; exact QA.out))
  rw [← HCK.out] at X2
  refine wp_region_quiet_below (by kernel_rfl) (by kernel_rfl) ?_
  repeat (first | go_big_quiet_step (first | (go_at_call 19; rename_i pp; exact Calls.below_of pp (X1.out _ pp.hb)) | (go_at_call 21; rename_i pp; exact Calls.below_of pp (X2.out _ pp.hb))) | quiet_step (first | (go_at_call 19; rename_i pp; exact Calls.below_of pp (X1.out _ pp.hb)) | (go_at_call 21; rename_i pp; exact Calls.below_of pp (X2.out _ pp.hb))))
  refine wpQuiet_nil ?_
  rintro w5 ⟨pp, hpp⟩
  have b5 := pp.hb
  rw [← hpp] at b5
  clear hpp pp
  have J5 := hid (J4.out.step b5)
  have E5 := hid (bel_of E4.out b5)
  have Y1 := hid (right_any s1 a1 c1 l1 w5 J5.out.ka.sp)
  rw [← HCK.out] at Y1
  obtain ⟨_, f0, f1, _, _, _⟩ := J5.out.ka
  clear b5 p0 p1 p2 p3 X1 X2 J4 E4 KX QA
  go_wp2_with fail
  refine Y1.out.mono ?_
  rintro e w6 ⟨rfl, b6⟩
  have J6 := hid (J5.out.step b6)
  have E6 := hid (bel_of E5.out b6)
  clear b6 J5 E5 Y1 f0 f1
  by_cases h1 : CK = 0
  · have hz1 := HCK.out
    rw [h1] at hz1
    have HZ1 := hid hz1
    subst h1
    have Y2 := hid (right_any s2 a2 c2 l2 w6 J6.out.kb.sp)
    rw [← HCB.out] at Y2
    obtain ⟨_, f2, f3, _, _, _⟩ := J6.out.kb
    clear hz1
    go_wp2_with fail
    refine Y2.out.mono ?_
    rintro e w6b ⟨rfl, b6⟩
    have J7 := hid (J6.out.step b6)
    have E7 := hid (bel_of E6.out b6)
    clear b6 J6 E6 Y2 f2 f3
    by_cases h2 : CB = 0
    · have hz2 := HCB.out
      rw [h2] at hz2
      have HZ2 := hid hz2
      subst h2
      clear hz2
      by_cases h3 : s1 = s2
      · have HS := hid h3
        have hne : (s1 != s2) = false := by simp [h3]
        clear h3
        have HV : Hid (C2 = 0) := by
          show C2 = _
          rw [HC2.out]; unfold chk2; rw [if_pos HZ1.out.symm, if_pos HZ2.out.symm, if_pos HS.out]
        obtain ⟨_, f0, f1, _, _, _⟩ := J7.out.ka
        obtain ⟨_, f2, f3, _, _, _⟩ := J7.out.kb
        go_wp2_with fail
        refine (both_j J7.out.ka J7.out.kb).mono ?_
        rintro e w7 ⟨⟨sy, ay, cy, ry, ey, rfl, hs, hn, hm, hA⟩, b7⟩
        rw [← HC2.out] at hA
        have QY := hid hA
        obtain ⟨W8, hW8⟩ : ∃ W8, W8 = w7.alloc (.cells #[.int .i64 sy, .slice ay ry.length cy] 24) := ⟨_, rfl⟩
        have J8 : Hid (JW W8 w.heap.size w1.heap.size Wl.heap.size s1 s2 a1 a2 c1 c2 l1 l2 (.slice pv nv cv) es) := by rw [hW8]; exact (J7.out.step b7).alloc _
        have KY : Hid (Cell W8 w7.heap.size sy ay cy ry) := by rw [hW8]; exact Cell.new hs hn hm
        have E8 : Hid (Below w.heap.size w W8) := by rw [hW8]; exact Below.alloc (bel_of E7.out b7) (bel_of E7.out b7).size _
        obtain ⟨_, g0, g1, _, _, _⟩ := J7.out.ka.step b7
        obtain ⟨_, g2, g3, _, _, _⟩ := J7.out.kb.step b7
        have HW8 := hid hW8
        clear hA hs hn hm b7 J7 E7 hW8 f0 f1 f2 f3
        go_wp2_with fail
        rw [← HW8.out]
        refine (either_j J8.out.ka J8.out.kb).mono ?_
        rintro e w9 ⟨⟨sz, az, cz, rz, ez, rfl, hs, hn, hm, hA⟩, b9⟩
        rw [← HC2.out] at hA
        have QZ := hid hA
        obtain ⟨W10, hW10⟩ : ∃ W10, W10 = w9.alloc (.cells #[.int .i64 sz, .slice az rz.length cz] 24) := ⟨_, rfl⟩
        have J10 : Hid (JW W10 w.heap.size w1.heap.size Wl.heap.size s1 s2 a1 a2 c1 c2 l1 l2 (.slice pv nv cv) es) := by rw [hW10]; exact (J8.out.step b9).alloc _
        have KY10 : Hid (Cell W10 w7.heap.size sy ay cy ry) := by rw [hW10]; exact (KY.out.step b9).alloc _
        have KZ : Hid (Cell W10 w9.heap.size sz az cz rz) := by rw [hW10]; exact Cell.new hs hn hm
        have E10 : Hid (Below w.heap.size w W10) := by rw [hW10]; exact Below.alloc (bel_of E8.out b9) (bel_of E8.out b9).size _
        obtain ⟨_, f0, f1, _, _, _⟩ := KY.out.step b9
        have HW10 := hid hW10
        clear hA hs hn hm b9 J8 E8 hW10 KY HW8 g0 g1 g2 g3
        have X1 := hid (told_both J10.out KY10.out (by rw [← HC2.out]; exact QY.out))
        rw [← HC2.out] at X1
        rw [HV.out] at X1
        go_wp2_with fail
        rw [← HW10.out]
        refine X1.out.mono ?_
        rintro e w11 ⟨rfl, b11⟩
        have J11 := hid (J10.out.step b11)
        have KZ11 := hid (KZ.out.step b11)
        have E11 := hid (bel_of E10.out b11)
        obtain ⟨_, g0, g1, _, _, _⟩ := KZ11.out
        have X2 := hid (told_either J11.out KZ11.out (by rw [← HC2.out]; exact QZ.out))
        rw [← HC2.out] at X2
        clear b11 J10 KY10 KZ E10 X1 HW10 f0 f1
        rw [HV.out] at X2
        go_wp2_with fail
        refine X2.out.mono ?_
        rintro e w12 ⟨rfl, b12⟩
        have E12 := hid (bel_of E11.out b12)
        clear b12
        go_wp2_with fail
        go_ret
        exact ⟨by first | rfl | simp, E12.out⟩
      · have HS := hid h3
        have hne : (s1 != s2) = true := by simp [h3]
        clear h3
        have HV : Hid (C2 = 1) := by
          show C2 = _
          rw [HC2.out]; unfold chk2; rw [if_pos HZ1.out.symm, if_pos HZ2.out.symm, if_neg HS.out]
        obtain ⟨_, f0, f1, _, _, _⟩ := J7.out.ka
        obtain ⟨_, f2, f3, _, _, _⟩ := J7.out.kb
        go_wp2_with fail
        refine (both_j J7.out.ka J7.out.kb).mono ?_
        rintro e w7 ⟨⟨sy, ay, cy, ry, ey, rfl, hs, hn, hm, hA⟩, b7⟩
        rw [← HC2.out] at hA
        have QY := hid hA
        obtain ⟨W8, hW8⟩ : ∃ W8, W8 = w7.alloc (.cells #[.int .i64 sy, .slice ay ry.length cy] 24) := ⟨_, rfl⟩
        have J8 : Hid (JW W8 w.heap.size w1.heap.size Wl.heap.size s1 s2 a1 a2 c1 c2 l1 l2 (.slice pv nv cv) es) := by rw [hW8]; exact (J7.out.step b7).alloc _
        have KY : Hid (Cell W8 w7.heap.size sy ay cy ry) := by rw [hW8]; exact Cell.new hs hn hm
        have E8 : Hid (Below w.heap.size w W8) := by rw [hW8]; exact Below.alloc (bel_of E7.out b7) (bel_of E7.out b7).size _
        obtain ⟨_, g0, g1, _, _, _⟩ := J7.out.ka.step b7
        obtain ⟨_, g2, g3, _, _, _⟩ := J7.out.kb.step b7
        have HW8 := hid hW8
        clear hA hs hn hm b7 J7 E7 hW8 f0 f1 f2 f3
        go_wp2_with fail
        rw [← HW8.out]
        refine (either_j J8.out.ka J8.out.kb).mono ?_
        rintro e w9 ⟨⟨sz, az, cz, rz, ez, rfl, hs, hn, hm, hA⟩, b9⟩
        rw [← HC2.out] at hA
        have QZ := hid hA
        obtain ⟨W10, hW10⟩ : ∃ W10, W10 = w9.alloc (.cells #[.int .i64 sz, .slice az rz.length cz] 24) := ⟨_, rfl⟩
        have J10 : Hid (JW W10 w.heap.size w1.heap.size Wl.heap.size s1 s2 a1 a2 c1 c2 l1 l2 (.slice pv nv cv) es) := by rw [hW10]; exact (J8.out.step b9).alloc _
        have KY10 : Hid (Cell W10 w7.heap.size sy ay cy ry) := by rw [hW10]; exact (KY.out.step b9).alloc _
        have KZ : Hid (Cell W10 w9.heap.size sz az cz rz) := by rw [hW10]; exact Cell.new hs hn hm
        have E10 : Hid (Below w.heap.size w W10) := by rw [hW10]; exact Below.alloc (bel_of E8.out b9) (bel_of E8.out b9).size _
        obtain ⟨_, f0, f1, _, _, _⟩ := KY.out.step b9
        have HW10 := hid hW10
        clear hA hs hn hm b9 J8 E8 hW10 KY HW8 g0 g1 g2 g3
        have X1 := hid (told_both J10.out KY10.out (by rw [← HC2.out]; exact QY.out))
        rw [← HC2.out] at X1
        rw [HV.out] at X1
        go_wp2_with fail
        rw [← HW10.out]
        refine X1.out.mono ?_
        rintro e w11 ⟨rfl, b11⟩
        have J11 := hid (J10.out.step b11)
        have KZ11 := hid (KZ.out.step b11)
        have E11 := hid (bel_of E10.out b11)
        obtain ⟨_, g0, g1, _, _, _⟩ := KZ11.out
        have X2 := hid (told_either J11.out KZ11.out (by rw [← HC2.out]; exact QZ.out))
        rw [← HC2.out] at X2
        clear b11 J10 KY10 KZ E10 X1 HW10 f0 f1
        rw [HV.out] at X2
        go_wp2_with fail
        refine X2.out.mono ?_
        rintro e w12 ⟨rfl, b12⟩
        have E12 := hid (bel_of E11.out b12)
        clear b12
        go_wp2_with fail
        go_ret
        exact ⟨by first | rfl | simp, E12.out⟩
    · have HN := hid h2
      have hne : (CB == 0) = false := by simp [h2]
      clear h2
      have HV : Hid (C2 = CB) := by
        show C2 = _
        rw [HC2.out]; unfold chk2; rw [if_pos HZ1.out.symm, if_neg (by rw [← HCB.out]; exact HN.out), ← HCB.out]
      obtain ⟨_, f0, f1, _, _, _⟩ := J7.out.ka
      obtain ⟨_, f2, f3, _, _, _⟩ := J7.out.kb
      go_wp2_with fail
      refine (both_j J7.out.ka J7.out.kb).mono ?_
      rintro e w7 ⟨⟨sy, ay, cy, ry, ey, rfl, hs, hn, hm, hA⟩, b7⟩
      rw [← HC2.out] at hA
      have QY := hid hA
      obtain ⟨W8, hW8⟩ : ∃ W8, W8 = w7.alloc (.cells #[.int .i64 sy, .slice ay ry.length cy] 24) := ⟨_, rfl⟩
      have J8 : Hid (JW W8 w.heap.size w1.heap.size Wl.heap.size s1 s2 a1 a2 c1 c2 l1 l2 (.slice pv nv cv) es) := by rw [hW8]; exact (J7.out.step b7).alloc _
      have KY : Hid (Cell W8 w7.heap.size sy ay cy ry) := by rw [hW8]; exact Cell.new hs hn hm
      have E8 : Hid (Below w.heap.size w W8) := by rw [hW8]; exact Below.alloc (bel_of E7.out b7) (bel_of E7.out b7).size _
      obtain ⟨_, g0, g1, _, _, _⟩ := J7.out.ka.step b7
      obtain ⟨_, g2, g3, _, _, _⟩ := J7.out.kb.step b7
      have HW8 := hid hW8
      clear hA hs hn hm b7 J7 E7 hW8 f0 f1 f2 f3
      go_wp2_with fail
      rw [← HW8.out]
      refine (either_j J8.out.ka J8.out.kb).mono ?_
      rintro e w9 ⟨⟨sz, az, cz, rz, ez, rfl, hs, hn, hm, hA⟩, b9⟩
      rw [← HC2.out] at hA
      have QZ := hid hA
      obtain ⟨W10, hW10⟩ : ∃ W10, W10 = w9.alloc (.cells #[.int .i64 sz, .slice az rz.length cz] 24) := ⟨_, rfl⟩
      have J10 : Hid (JW W10 w.heap.size w1.heap.size Wl.heap.size s1 s2 a1 a2 c1 c2 l1 l2 (.slice pv nv cv) es) := by rw [hW10]; exact (J8.out.step b9).alloc _
      have KY10 : Hid (Cell W10 w7.heap.size sy ay cy ry) := by rw [hW10]; exact (KY.out.step b9).alloc _
      have KZ : Hid (Cell W10 w9.heap.size sz az cz rz) := by rw [hW10]; exact Cell.new hs hn hm
      have E10 : Hid (Below w.heap.size w W10) := by rw [hW10]; exact Below.alloc (bel_of E8.out b9) (bel_of E8.out b9).size _
      obtain ⟨_, f0, f1, _, _, _⟩ := KY.out.step b9
      have HW10 := hid hW10
      clear hA hs hn hm b9 J8 E8 hW10 KY HW8 g0 g1 g2 g3
      have X1 := hid (told_both J10.out KY10.out (by rw [← HC2.out]; exact QY.out))
      rw [← HC2.out] at X1
      rw [HV.out] at X1
      go_wp2_with fail
      rw [← HW10.out]
      refine X1.out.mono ?_
      rintro e w11 ⟨rfl, b11⟩
      have J11 := hid (J10.out.step b11)
      have KZ11 := hid (KZ.out.step b11)
      have E11 := hid (bel_of E10.out b11)
      obtain ⟨_, g0, g1, _, _, _⟩ := KZ11.out
      have X2 := hid (told_either J11.out KZ11.out (by rw [← HC2.out]; exact QZ.out))
      rw [← HC2.out] at X2
      clear b11 J10 KY10 KZ E10 X1 HW10 f0 f1
      rw [HV.out] at X2
      go_wp2_with fail
      refine X2.out.mono ?_
      rintro e w12 ⟨rfl, b12⟩
      have E12 := hid (bel_of E11.out b12)
      clear b12
      go_wp2_with fail
      go_ret
      exact ⟨by first | rfl | simp, E12.out⟩
  · have HN := hid h1
    have hne : (CK == 0) = false := by simp [h1]
    clear h1
    have HV : Hid (C2 = CK) := by
      show C2 = _
      rw [HC2.out]; unfold chk2; rw [if_neg (by rw [← HCK.out]; exact HN.out), ← HCK.out]
    obtain ⟨_, f0, f1, _, _, _⟩ := J6.out.ka
    obtain ⟨_, f2, f3, _, _, _⟩ := J6.out.kb
    go_wp2_with fail
    refine (both_j J6.out.ka J6.out.kb).mono ?_
    rintro e w7 ⟨⟨sy, ay, cy, ry, ey, rfl, hs, hn, hm, hA⟩, b7⟩
    rw [← HC2.out] at hA
    have QY := hid hA
    obtain ⟨W8, hW8⟩ : ∃ W8, W8 = w7.alloc (.cells #[.int .i64 sy, .slice ay ry.length cy] 24) := ⟨_, rfl⟩
    have J8 : Hid (JW W8 w.heap.size w1.heap.size Wl.heap.size s1 s2 a1 a2 c1 c2 l1 l2 (.slice pv nv cv) es) := by rw [hW8]; exact (J6.out.step b7).alloc _
    have KY : Hid (Cell W8 w7.heap.size sy ay cy ry) := by rw [hW8]; exact Cell.new hs hn hm
    have E8 : Hid (Below w.heap.size w W8) := by rw [hW8]; exact Below.alloc (bel_of E6.out b7) (bel_of E6.out b7).size _
    obtain ⟨_, g0, g1, _, _, _⟩ := J6.out.ka.step b7
    obtain ⟨_, g2, g3, _, _, _⟩ := J6.out.kb.step b7
    have HW8 := hid hW8
    clear hA hs hn hm b7 J6 E6 hW8 f0 f1 f2 f3
    go_wp2_with fail
    rw [← HW8.out]
    refine (either_j J8.out.ka J8.out.kb).mono ?_
    rintro e w9 ⟨⟨sz, az, cz, rz, ez, rfl, hs, hn, hm, hA⟩, b9⟩
    rw [← HC2.out] at hA
    have QZ := hid hA
    obtain ⟨W10, hW10⟩ : ∃ W10, W10 = w9.alloc (.cells #[.int .i64 sz, .slice az rz.length cz] 24) := ⟨_, rfl⟩
    have J10 : Hid (JW W10 w.heap.size w1.heap.size Wl.heap.size s1 s2 a1 a2 c1 c2 l1 l2 (.slice pv nv cv) es) := by rw [hW10]; exact (J8.out.step b9).alloc _
    have KY10 : Hid (Cell W10 w7.heap.size sy ay cy ry) := by rw [hW10]; exact (KY.out.step b9).alloc _
    have KZ : Hid (Cell W10 w9.heap.size sz az cz rz) := by rw [hW10]; exact Cell.new hs hn hm
    have E10 : Hid (Below w.heap.size w W10) := by rw [hW10]; exact Below.alloc (bel_of E8.out b9) (bel_of E8.out b9).size _
    obtain ⟨_, f0, f1, _, _, _⟩ := KY.out.step b9
    have HW10 := hid hW10
    clear hA hs hn hm b9 J8 E8 hW10 KY HW8 g0 g1 g2 g3
    have X1 := hid (told_both J10.out KY10.out (by rw [← HC2.out]; exact QY.out))
    rw [← HC2.out] at X1
    rw [HV.out] at X1
    go_wp2_with fail
    rw [← HW10.out]
    refine X1.out.mono ?_
    rintro e w11 ⟨rfl, b11⟩
    have J11 := hid (J10.out.step b11)
    have KZ11 := hid (KZ.out.step b11)
    have E11 := hid (bel_of E10.out b11)
    obtain ⟨_, g0, g1, _, _, _⟩ := KZ11.out
    have X2 := hid (told_either J11.out KZ11.out (by rw [← HC2.out]; exact QZ.out))
    rw [← HC2.out] at X2
    clear b11 J10 KY10 KZ E10 X1 HW10 f0 f1
    rw [HV.out] at X2
    go_wp2_with fail
    refine X2.out.mono ?_
    rintro e w12 ⟨rfl, b12⟩
    have E12 := hid (bel_of E11.out b12)
    clear b12
    go_wp2_with fail
    go_ret
    exact ⟨by first | rfl | simp, E12.out⟩
theorem spanJoins_walk (s1 : Int) (a1 : Option Addr) (n1 c1 : Nat) (l1 : List Sp) (s2 : Int) (a2 : Option Addr) (n2 c2 : Nat) (l2 : List Sp) (w : World) (h1 : wf64 s1) (h2 : IsSps w a1 n1 c1 l1) (h3 : wf64 s2) (h4 : IsSps w a2 n2 c2 l2) (b1 : n1 ≤ 1048576) (b2 : n2 ≤ 1048576) :
    Calls Try.prog 4 #[.agg #[.int .i64 s1, .slice a1 n1 c1], .agg #[.int .i64 s2, .slice a2 n2 c2]] w fun e w' => e = .returned (.bool true) ∧ Below w.heap.size w w' := by
  obtain ⟨rfl, x1, x2, x3, x4, _⟩ := h2
  obtain ⟨rfl, y1, y2, y3, y4, _⟩ := h4
  exact joins_any s1 s2 a1 a2 c1 c2 l1 l2 w x3 (fun h => (x4 h).2) (Nat.le_trans x1 x2) y3 (fun h => (y4 h).2) (Nat.le_trans y1 y2) b1 b2
end SpanC
end Go.Proofs.Ytlhkjdghefbnfaa
