/- TableOwns. -/
import Derived.Test.YtgehdpohiphcpaaTabL0
import Derived.Test.YtgehdpohiphcpaaTabO
set_option linter.unusedVariables false
namespace Go.Proofs.Ytgehdpohiphcpaa
open Go.RowKit
open SpanM SpanC TabM
namespace TabC
set_option maxHeartbeats 1600000 in
theorem tableOwns_bad (size : Int) (a : Option Addr) (cap : Nat) (l : List Win) (t o : Int) (w : World) (hr : Wns w a l) (hk : tchk size l ≠ 0) :
    Calls Try.prog 3 #[.agg #[.int .i64 size, .slice a l.length cap], .int .i64 t, .int .i64 o] w fun e w' => e = .returned (.bool true) ∧ Below w.heap.size w w' := by
  have hce : timE size o l = tchk size l := by unfold timE; rw [if_neg hk]
  have HOW := hid (fun W (h : Below w.heap.size w W) => owner_err size t a cap l W (hr.below h (Nat.le_refl _)) hk)
  have HTI := hid (fun W (h : Below w.heap.size w W) => times_says size o a cap l W (hr.below h (Nat.le_refl _)))
  have HRI := hid (fun W (h : Below w.heap.size w W) => right_any size a cap l W (hr.below h (Nat.le_refl _)))
  have HCH := hid (fun W (h : Below w.heap.size w W) => check_any size a cap l W (hr.below h (Nat.le_refl _)))
  rw [hce] at HTI
  have hc0 : (tchk size l == 0) = false := by simp [hk]
  have hcn : tchk size l ≠ 0 := hk
  clear hce hk hr
  generalize tchk size l = c at *
  go_enter Try.func3, Try.ntmps3
  go_wp2_with fail
  refine (HOW.out _ (by go_grown)).mono ?_
  rintro e w1 ⟨rfl, b1⟩
  have T1 : Hid (TabIn w w1 size (.slice a l.length cap)) := box1 b1
  clear b1
  have c0 : w1.cell? ⟨w.heap.size, 0, none⟩ = some (.int .i64 size) := boxc T1.out 0
  have c1 : w1.cell? ⟨w.heap.size, 1, none⟩ = some (.slice a l.length cap) := boxc T1.out 1
  have z1 : w.heap.size < w1.heap.size := by have := T1.out.size; simp at this; omega
  go_wp2_with fail
  refine (HTI.out _ (of_alloc T1.out)).mono ?_
  rintro e w2 ⟨⟨s, sa, cs, r, er, rfl, hs, hml, rfl, hok, herr⟩, b2⟩
  have T2 : Hid (TabIn w w2 size (.slice a l.length cap)) := box2 T1.out b2
  clear b2 c0 c1
  obtain ⟨rfl, rfl⟩ := herr hcn
  clear hok herr
  have c0 : w2.cell? ⟨w.heap.size, 0, none⟩ = some (.int .i64 size) := boxc T2.out 0
  have c1 : w2.cell? ⟨w.heap.size, 1, none⟩ = some (.slice a l.length cap) := boxc T2.out 1
  have z2 : w.heap.size < w2.heap.size := by have := T2.out.size; simp at this; omega
  have S2 := hid (CellS.new (s := 0) (c := cs) hs hml)
  clear hs hml
  go_wp2_with fail
  refine (HRI.out _ (of_alloc (T2.out.al (Below.refl _ _)))).mono ?_
  rintro e w3 ⟨rfl, b3⟩
  have T3 : Hid (TabIn w w3 size (.slice a l.length cap)) := T2.out.al b3
  have S3 := hid (S2.out.step b3)
  clear b3 c0 c1
  have c0 : w3.cell? ⟨w.heap.size, 0, none⟩ = some (.int .i64 size) := boxc T3.out 0
  have c1 : w3.cell? ⟨w.heap.size, 1, none⟩ = some (.slice a l.length cap) := boxc T3.out 1
  have z3 : w.heap.size < w3.heap.size := by have := T3.out.size; simp at this; omega
  go_wp2_with fail
  have B7 := hid (Below.alloc (Below.refl w3.heap.size w3) (Nat.le_refl _) (.cells #[.int .i64 0, .slice none 0 0] 30))
  have Q7 := hid (CellS.nil w3)
  have S7 := hid (S3.out.step B7.out)
  have T7 := hid (T3.out.trans (B7.out.mono (by omega)))
  refine (HCH.out _ (of_alloc T7.out)).mono ?_
  rintro e w8 ⟨rfl, b8⟩
  have S8 := hid (S7.out.step b8)
  have Q8 := hid (Q7.out.step b8)
  have HB8 := hid (bel_of (of_alloc T7.out) b8)
  clear b8
  have s0 := S8.out.c0
  have s1 := S8.out.c1
  have u0 := Q8.out.c0
  have u1 := Q8.out.c1
  have hcc : (er == er) = true := by simp
  go_wp2_with fail
  refine (same_true S8.out Q8.out).mono ?_
  rintro e w9 ⟨rfl, b9⟩
  go_wp2_with fail
  go_ret
  exact ⟨by first | rfl | simp, bel_of HB8.out b9⟩
set_option maxHeartbeats 1600000 in
theorem tableOwns_no_no (size : Int) (a : Option Addr) (cap : Nat) (l : List Win) (t o : Int) (w : World) (hr : Wns w a l) (hk : tchk size l = 0) (ht : ¬ (0 ≤ t ∧ t ≤ 1099511627776)) (ho : ¬ (0 ≤ o ∧ o ≤ 15)) :
    Calls Try.prog 3 #[.agg #[.int .i64 size, .slice a l.length cap], .int .i64 t, .int .i64 o] w fun e w' => e = .returned (.bool true) ∧ Below w.heap.size w w' := by
  have hce : timE size o l = 1 := by unfold timE; rw [if_pos hk, if_neg ho]
  have HOW := hid (fun W (h : Below w.heap.size w W) => owner_arg size t a cap l W (hr.below h (Nat.le_refl _)) hk ht)
  have HTI := hid (fun W (h : Below w.heap.size w W) => times_says size o a cap l W (hr.below h (Nat.le_refl _)))
  have HRI := hid (fun W (h : Below w.heap.size w W) => right_any size a cap l W (hr.below h (Nat.le_refl _)))
  have HCH := hid (fun W (h : Below w.heap.size w W) => check_any size a cap l W (hr.below h (Nat.le_refl _)))
  rw [hce] at HTI
  rw [hk] at HRI HCH
  clear hce hr hk
  go_enter Try.func3, Try.ntmps3
  go_wp2_with fail
  refine (HOW.out _ (by go_grown)).mono ?_
  rintro e w1 ⟨rfl, b1⟩
  have T1 : Hid (TabIn w w1 size (.slice a l.length cap)) := box1 b1
  clear b1
  have c0 : w1.cell? ⟨w.heap.size, 0, none⟩ = some (.int .i64 size) := boxc T1.out 0
  have c1 : w1.cell? ⟨w.heap.size, 1, none⟩ = some (.slice a l.length cap) := boxc T1.out 1
  have z1 : w.heap.size < w1.heap.size := by have := T1.out.size; simp at this; omega
  go_wp2_with fail
  refine (HTI.out _ (of_alloc T1.out)).mono ?_
  rintro e w2 ⟨⟨s, sa, cs, r, er, rfl, hs, hml, rfl, hok, herr⟩, b2⟩
  have T2 : Hid (TabIn w w2 size (.slice a l.length cap)) := box2 T1.out b2
  clear b2 c0 c1
  obtain ⟨rfl, rfl⟩ := herr (by decide)
  clear hok herr
  have c0 : w2.cell? ⟨w.heap.size, 0, none⟩ = some (.int .i64 size) := boxc T2.out 0
  have c1 : w2.cell? ⟨w.heap.size, 1, none⟩ = some (.slice a l.length cap) := boxc T2.out 1
  have z2 : w.heap.size < w2.heap.size := by have := T2.out.size; simp at this; omega
  have S2 := hid (CellS.new (s := 0) (c := cs) hs hml)
  clear hs hml
  go_wp2_with fail
  refine (HRI.out _ (of_alloc (T2.out.al (Below.refl _ _)))).mono ?_
  rintro e w3 ⟨rfl, b3⟩
  have T3 : Hid (TabIn w w3 size (.slice a l.length cap)) := T2.out.al b3
  have S3 := hid (S2.out.step b3)
  clear b3 c0 c1
  have c0 : w3.cell? ⟨w.heap.size, 0, none⟩ = some (.int .i64 size) := boxc T3.out 0
  have c1 : w3.cell? ⟨w.heap.size, 1, none⟩ = some (.slice a l.length cap) := boxc T3.out 1
  have z3 : w.heap.size < w3.heap.size := by have := T3.out.size; simp at this; omega
  go_wp2_with (first | (go_at_call 14; refine (btw_yes _ _ _ _ (by omega) (by omega)).mono ?_; rintro e w' ⟨rfl, hw⟩; replace hw := hw.symm; subst hw) | (go_at_call 14; refine (btw_no _ _ _ _ (by omega)).mono ?_; rintro e w' ⟨rfl, hw⟩; replace hw := hw.symm; subst hw))
  have B7 := hid (Below.alloc (Below.refl w3.heap.size w3) (Nat.le_refl _) (.cells #[.int .i64 0, .slice none 0 0] 30))
  have Q7 := hid (CellS.nil w3)
  have S7 := hid (S3.out.step B7.out)
  have T7 := hid (T3.out.trans (B7.out.mono (by omega)))
  refine (HCH.out _ (of_alloc T7.out)).mono ?_
  rintro e w8 ⟨rfl, b8⟩
  have S8 := hid (S7.out.step b8)
  have Q8 := hid (Q7.out.step b8)
  have HB8 := hid (bel_of (of_alloc T7.out) b8)
  clear b8
  have s0 := S8.out.c0
  have s1 := S8.out.c1
  have u0 := Q8.out.c0
  have u1 := Q8.out.c1
  go_wp2_with fail
  refine (same_true S8.out Q8.out).mono ?_
  rintro e w9 ⟨rfl, b9⟩
  go_wp2_with fail
  go_ret
  exact ⟨by first | rfl | simp, bel_of HB8.out b9⟩
set_option maxHeartbeats 1600000 in
theorem tableOwns_yes_no (size : Int) (a : Option Addr) (cap : Nat) (l : List Win) (t o : Int) (w : World) (hr : Wns w a l) (hk : tchk size l = 0) (ht1 : 0 ≤ t) (ht2 : t ≤ 1099511627776) (ho : ¬ (0 ≤ o ∧ o ≤ 15)) :
    Calls Try.prog 3 #[.agg #[.int .i64 size, .slice a l.length cap], .int .i64 t, .int .i64 o] w fun e w' => e = .returned (.bool true) ∧ Below w.heap.size w w' := by
  have hce : timE size o l = 1 := by unfold timE; rw [if_pos hk, if_neg ho]
  have HOW := hid (fun W (h : Below w.heap.size w W) => owner_ok size t a cap l W (hr.below h (Nat.le_refl _)) hk ht1 ht2)
  have HRO := hid (fun W (h : Below w.heap.size w W) => ownerOf_any size t a cap l W (hr.below h (Nat.le_refl _)) hk ht1 (by omega))
  have HTI := hid (fun W (h : Below w.heap.size w W) => times_says size o a cap l W (hr.below h (Nat.le_refl _)))
  have HRI := hid (fun W (h : Below w.heap.size w W) => right_any size a cap l W (hr.below h (Nat.le_refl _)))
  have HCH := hid (fun W (h : Below w.heap.size w W) => check_any size a cap l W (hr.below h (Nat.le_refl _)))
  rw [hce] at HTI
  rw [hk] at HRI HCH
  clear hce hr hk
  generalize wown l (t % size) = M at HOW HRO
  go_enter Try.func3, Try.ntmps3
  go_wp2_with fail
  refine (HOW.out _ (by go_grown)).mono ?_
  rintro e w1 ⟨rfl, b1⟩
  have T1 : Hid (TabIn w w1 size (.slice a l.length cap)) := box1 b1
  clear b1
  have c0 : w1.cell? ⟨w.heap.size, 0, none⟩ = some (.int .i64 size) := boxc T1.out 0
  have c1 : w1.cell? ⟨w.heap.size, 1, none⟩ = some (.slice a l.length cap) := boxc T1.out 1
  have z1 : w.heap.size < w1.heap.size := by have := T1.out.size; simp at this; omega
  go_wp2_with fail
  refine (HTI.out _ (of_alloc T1.out)).mono ?_
  rintro e w2 ⟨⟨s, sa, cs, r, er, rfl, hs, hml, rfl, hok, herr⟩, b2⟩
  have T2 : Hid (TabIn w w2 size (.slice a l.length cap)) := box2 T1.out b2
  clear b2 c0 c1
  obtain ⟨rfl, rfl⟩ := herr (by decide)
  clear hok herr
  have c0 : w2.cell? ⟨w.heap.size, 0, none⟩ = some (.int .i64 size) := boxc T2.out 0
  have c1 : w2.cell? ⟨w.heap.size, 1, none⟩ = some (.slice a l.length cap) := boxc T2.out 1
  have z2 : w.heap.size < w2.heap.size := by have := T2.out.size; simp at this; omega
  have S2 := hid (CellS.new (s := 0) (c := cs) hs hml)
  clear hs hml
  go_wp2_with fail
  refine (HRI.out _ (of_alloc (T2.out.al (Below.refl _ _)))).mono ?_
  rintro e w3 ⟨rfl, b3⟩
  have T3 : Hid (TabIn w w3 size (.slice a l.length cap)) := T2.out.al b3
  have S3 := hid (S2.out.step b3)
  clear b3 c0 c1
  have c0 : w3.cell? ⟨w.heap.size, 0, none⟩ = some (.int .i64 size) := boxc T3.out 0
  have c1 : w3.cell? ⟨w.heap.size, 1, none⟩ = some (.slice a l.length cap) := boxc T3.out 1
  have z3 : w.heap.size < w3.heap.size := by have := T3.out.size; simp at this; omega
  go_wp2_with (first | (go_at_call 14; refine (btw_yes _ _ _ _ (by omega) (by omega)).mono ?_; rintro e w' ⟨rfl, hw⟩; replace hw := hw.symm; subst hw) | (go_at_call 14; refine (btw_no _ _ _ _ (by omega)).mono ?_; rintro e w' ⟨rfl, hw⟩; replace hw := hw.symm; subst hw))
  refine (HRO.out _ (of_alloc T3.out)).mono ?_
  rintro e w4 ⟨rfl, b4⟩
  have T4 : Hid (TabIn w w4 size (.slice a l.length cap)) := box2 T3.out b4
  have S4 := hid (S3.out.step b4)
  clear b4 c0 c1
  have c0 : w4.cell? ⟨w.heap.size, 0, none⟩ = some (.int .i64 size) := boxc T4.out 0
  have c1 : w4.cell? ⟨w.heap.size, 1, none⟩ = some (.slice a l.length cap) := boxc T4.out 1
  have z4 : w.heap.size < w4.heap.size := by have := T4.out.size; simp at this; omega
  go_wp2_with (first | (go_at_call 14; refine (btw_yes _ _ _ _ (by omega) (by omega)).mono ?_; rintro e w' ⟨rfl, hw⟩; replace hw := hw.symm; subst hw) | (go_at_call 14; refine (btw_no _ _ _ _ (by omega)).mono ?_; rintro e w' ⟨rfl, hw⟩; replace hw := hw.symm; subst hw))
  have B7 := hid (Below.alloc (Below.refl w4.heap.size w4) (Nat.le_refl _) (.cells #[.int .i64 0, .slice none 0 0] 30))
  have Q7 := hid (CellS.nil w4)
  have S7 := hid (S4.out.step B7.out)
  have T7 := hid (T4.out.trans (B7.out.mono (by omega)))
  refine (HCH.out _ (of_alloc T7.out)).mono ?_
  rintro e w8 ⟨rfl, b8⟩
  have S8 := hid (S7.out.step b8)
  have Q8 := hid (Q7.out.step b8)
  have HB8 := hid (bel_of (of_alloc T7.out) b8)
  clear b8
  have s0 := S8.out.c0
  have s1 := S8.out.c1
  have u0 := Q8.out.c0
  have u1 := Q8.out.c1
  have hmm : (M == M) = true := by simp
  go_wp2_with fail
  refine (same_true S8.out Q8.out).mono ?_
  rintro e w9 ⟨rfl, b9⟩
  go_wp2_with fail
  go_ret
  exact ⟨by first | rfl | simp, bel_of HB8.out b9⟩
set_option maxHeartbeats 1600000 in
theorem tableOwns_no_yes (size : Int) (a : Option Addr) (cap : Nat) (l : List Win) (t o : Int) (w : World) (hr : Wns w a l) (hk : tchk size l = 0) (ht : ¬ (0 ≤ t ∧ t ≤ 1099511627776)) (ho1 : 0 ≤ o) (ho2 : o ≤ 15) :
    Calls Try.prog 3 #[.agg #[.int .i64 size, .slice a l.length cap], .int .i64 t, .int .i64 o] w fun e w' => e = .returned (.bool true) ∧ Below w.heap.size w w' := by
  have hce : timE size o l = 0 := by unfold timE; rw [if_pos hk, if_pos ⟨ho1, ho2⟩]
  have HOW := hid (fun W (h : Below w.heap.size w W) => owner_arg size t a cap l W (hr.below h (Nat.le_refl _)) hk ht)
  have HTO := hid (fun W (h : Below w.heap.size w W) => timesOf_says size o a cap l W (hr.below h (Nat.le_refl _)) hk ho1)
  have HTI := hid (fun W (h : Below w.heap.size w W) => times_says size o a cap l W (hr.below h (Nat.le_refl _)))
  have HRI := hid (fun W (h : Below w.heap.size w W) => right_any size a cap l W (hr.below h (Nat.le_refl _)))
  have HCH := hid (fun W (h : Below w.heap.size w W) => check_any size a cap l W (hr.below h (Nat.le_refl _)))
  rw [hce] at HTI
  rw [hk] at HRI HCH
  clear hce hr hk
  go_enter Try.func3, Try.ntmps3
  go_wp2_with fail
  refine (HOW.out _ (by go_grown)).mono ?_
  rintro e w1 ⟨rfl, b1⟩
  have T1 : Hid (TabIn w w1 size (.slice a l.length cap)) := box1 b1
  clear b1
  have c0 : w1.cell? ⟨w.heap.size, 0, none⟩ = some (.int .i64 size) := boxc T1.out 0
  have c1 : w1.cell? ⟨w.heap.size, 1, none⟩ = some (.slice a l.length cap) := boxc T1.out 1
  have z1 : w.heap.size < w1.heap.size := by have := T1.out.size; simp at this; omega
  go_wp2_with fail
  refine (HTI.out _ (of_alloc T1.out)).mono ?_
  rintro e w2 ⟨⟨s, sa, cs, r, er, rfl, hs, hml, rfl, hok, herr⟩, b2⟩
  have T2 : Hid (TabIn w w2 size (.slice a l.length cap)) := box2 T1.out b2
  clear b2 c0 c1
  obtain ⟨hss, hck, hmm⟩ := hok rfl
  have hss2 := hss.symm
  clear hss
  subst hss2
  have HCK := hid hck
  have HMM := hid hmm
  clear hok herr hck hmm
  have c0 : w2.cell? ⟨w.heap.size, 0, none⟩ = some (.int .i64 size) := boxc T2.out 0
  have c1 : w2.cell? ⟨w.heap.size, 1, none⟩ = some (.slice a l.length cap) := boxc T2.out 1
  have z2 : w.heap.size < w2.heap.size := by have := T2.out.size; simp at this; omega
  have S2 := hid (CellS.new (s := size) (c := cs) hs hml)
  clear hs hml
  go_wp2_with fail
  refine (HRI.out _ (of_alloc (T2.out.al (Below.refl _ _)))).mono ?_
  rintro e w3 ⟨rfl, b3⟩
  have T3 : Hid (TabIn w w3 size (.slice a l.length cap)) := T2.out.al b3
  have S3 := hid (S2.out.step b3)
  clear b3 c0 c1
  have c0 : w3.cell? ⟨w.heap.size, 0, none⟩ = some (.int .i64 size) := boxc T3.out 0
  have c1 : w3.cell? ⟨w.heap.size, 1, none⟩ = some (.slice a l.length cap) := boxc T3.out 1
  have z3 : w.heap.size < w3.heap.size := by have := T3.out.size; simp at this; omega
  go_wp2_with (first | (go_at_call 14; refine (btw_yes _ _ _ _ (by omega) (by omega)).mono ?_; rintro e w' ⟨rfl, hw⟩; replace hw := hw.symm; subst hw) | (go_at_call 14; refine (btw_no _ _ _ _ (by omega)).mono ?_; rintro e w' ⟨rfl, hw⟩; replace hw := hw.symm; subst hw))
  have BV := hid (Below.alloc (Below.refl w3.heap.size w3) (Nat.le_refl _) (.cells #[.int .i64 0, .slice none 0 0] 30))
  refine (HTO.out _ ((of_alloc T3.out).trans (BV.out.mono (by omega)))).mono ?_
  rintro e w6 ⟨⟨a6, c6, r6, rfl, ho6, hu6⟩, b6⟩
  have hr6 := hu6 r HCK.out HMM.out
  subst hr6
  have hsz6 := b6.size
  simp only [World.size_alloc] at hsz6
  have q0 : w6.cell? ⟨w3.heap.size, 0, none⟩ = some (.int .i64 0) := (b6.cell (by simp)).trans (World.cell?_alloc_at _ _ _ _ rfl)
  have q1 : w6.cell? ⟨w3.heap.size, 1, none⟩ = some (.slice none 0 0) := (b6.cell (by simp)).trans (World.cell?_alloc_at _ _ _ _ rfl)
  have g0 : w6.frozen? ⟨w3.heap.size, 0, none⟩ = false := (b6.frozen (by simp)).trans (World.frozen?_alloc_at _ _ _ _ rfl)
  have g1 : w6.frozen? ⟨w3.heap.size, 1, none⟩ = false := (b6.frozen (by simp)).trans (World.frozen?_alloc_at _ _ _ _ rfl)
  simp only [World.size_alloc] at ho6
  have Q7 := hid (CellS.set (s := size) q0 q1 (by omega) ho6)
  have B7 := hid (Below.setCell (Below.setCell (BV.out.trans (b6.mono (by simp))) (p := ⟨w3.heap.size, 0, none⟩) (Nat.le_refl _) (.int .i64 size)) (p := ⟨w3.heap.size, 1, none⟩) (Nat.le_refl _) (.slice a6 r.length c6))
  have S7 := hid (S3.out.step B7.out)
  have T7 := hid (T3.out.trans (B7.out.mono (by omega)))
  clear b6 hu6 c0 c1 ho6
  have c0 := boxc T7.out 0
  have c1 := boxc T7.out 1
  simp only [List.getElem?_toArray, List.getElem?_cons_zero, List.getElem?_cons_succ] at c0 c1
  go_wp2_with fail
  refine (HCH.out _ (of_alloc T7.out)).mono ?_
  rintro e w8 ⟨rfl, b8⟩
  have S8 := hid (S7.out.step b8)
  have Q8 := hid (Q7.out.step b8)
  have HB8 := hid (bel_of (of_alloc T7.out) b8)
  clear b8
  have s0 := S8.out.c0
  have s1 := S8.out.c1
  have u0 := Q8.out.c0
  have u1 := Q8.out.c1
  go_wp2_with fail
  refine (same_true S8.out Q8.out).mono ?_
  rintro e w9 ⟨rfl, b9⟩
  go_wp2_with fail
  go_ret
  exact ⟨by first | rfl | simp, bel_of HB8.out b9⟩
set_option maxHeartbeats 1600000 in
theorem tableOwns_yes_yes (size : Int) (a : Option Addr) (cap : Nat) (l : List Win) (t o : Int) (w : World) (hr : Wns w a l) (hk : tchk size l = 0) (ht1 : 0 ≤ t) (ht2 : t ≤ 1099511627776) (ho1 : 0 ≤ o) (ho2 : o ≤ 15) :
    Calls Try.prog 3 #[.agg #[.int .i64 size, .slice a l.length cap], .int .i64 t, .int .i64 o] w fun e w' => e = .returned (.bool true) ∧ Below w.heap.size w w' := by
  have hce : timE size o l = 0 := by unfold timE; rw [if_pos hk, if_pos ⟨ho1, ho2⟩]
  have HOW := hid (fun W (h : Below w.heap.size w W) => owner_ok size t a cap l W (hr.below h (Nat.le_refl _)) hk ht1 ht2)
  have HRO := hid (fun W (h : Below w.heap.size w W) => ownerOf_any size t a cap l W (hr.below h (Nat.le_refl _)) hk ht1 (by omega))
  have HTO := hid (fun W (h : Below w.heap.size w W) => timesOf_says size o a cap l W (hr.below h (Nat.le_refl _)) hk ho1)
  have HTI := hid (fun W (h : Below w.heap.size w W) => times_says size o a cap l W (hr.below h (Nat.le_refl _)))
  have HRI := hid (fun W (h : Below w.heap.size w W) => right_any size a cap l W (hr.below h (Nat.le_refl _)))
  have HCH := hid (fun W (h : Below w.heap.size w W) => check_any size a cap l W (hr.below h (Nat.le_refl _)))
  rw [hce] at HTI
  rw [hk] at HRI HCH
  clear hce hr hk
  generalize wown l (t % size) = M at HOW HRO
  go_enter Try.func3, Try.ntmps3
  go_wp2_with fail
  refine (HOW.out _ (by go_grown)).mono ?_
  rintro e w1 ⟨rfl, b1⟩
  have T1 : Hid (TabIn w w1 size (.slice a l.length cap)) := box1 b1
  clear b1
  have c0 : w1.cell? ⟨w.heap.size, 0, none⟩ = some (.int .i64 size) := boxc T1.out 0
  have c1 : w1.cell? ⟨w.heap.size, 1, none⟩ = some (.slice a l.length cap) := boxc T1.out 1
  have z1 : w.heap.size < w1.heap.size := by have := T1.out.size; simp at this; omega
  go_wp2_with fail
  refine (HTI.out _ (of_alloc T1.out)).mono ?_
  rintro e w2 ⟨⟨s, sa, cs, r, er, rfl, hs, hml, rfl, hok, herr⟩, b2⟩
  have T2 : Hid (TabIn w w2 size (.slice a l.length cap)) := box2 T1.out b2
  clear b2 c0 c1
  obtain ⟨hss, hck, hmm⟩ := hok rfl
  have hss2 := hss.symm
  clear hss
  subst hss2
  have HCK := hid hck
  have HMM := hid hmm
  clear hok herr hck hmm
  have c0 : w2.cell? ⟨w.heap.size, 0, none⟩ = some (.int .i64 size) := boxc T2.out 0
  have c1 : w2.cell? ⟨w.heap.size, 1, none⟩ = some (.slice a l.length cap) := boxc T2.out 1
  have z2 : w.heap.size < w2.heap.size := by have := T2.out.size; simp at this; omega
  have S2 := hid (CellS.new (s := size) (c := cs) hs hml)
  clear hs hml
  go_wp2_with fail
  refine (HRI.out _ (of_alloc (T2.out.al (Below.refl _ _)))).mono ?_
  rintro e w3 ⟨rfl, b3⟩
  have T3 : Hid (TabIn w w3 size (.slice a l.length cap)) := T2.out.al b3
  have S3 := hid (S2.out.step b3)
  clear b3 c0 c1
  have c0 : w3.cell? ⟨w.heap.size, 0, none⟩ = some (.int .i64 size) := boxc T3.out 0
  have c1 : w3.cell? ⟨w.heap.size, 1, none⟩ = some (.slice a l.length cap) := boxc T3.out 1
  have z3 : w.heap.size < w3.heap.size := by have := T3.out.size; simp at this; omega
  go_wp2_with (first | (go_at_call 14; refine (btw_yes _ _ _ _ (by omega) (by omega)).mono ?_; rintro e w' ⟨rfl, hw⟩; replace hw := hw.symm; subst hw) | (go_at_call 14; refine (btw_no _ _ _ _ (by omega)).mono ?_; rintro e w' ⟨rfl, hw⟩; replace hw := hw.symm; subst hw))
  refine (HRO.out _ (of_alloc T3.out)).mono ?_
  rintro e w4 ⟨rfl, b4⟩
  have T4 : Hid (TabIn w w4 size (.slice a l.length cap)) := box2 T3.out b4
  have S4 := hid (S3.out.step b4)
  clear b4 c0 c1
  have c0 : w4.cell? ⟨w.heap.size, 0, none⟩ = some (.int .i64 size) := boxc T4.out 0
  have c1 : w4.cell? ⟨w.heap.size, 1, none⟩ = some (.slice a l.length cap) := boxc T4.out 1
  have z4 : w.heap.size < w4.heap.size := by have := T4.out.size; simp at this; omega
  go_wp2_with (first | (go_at_call 14; refine (btw_yes _ _ _ _ (by omega) (by omega)).mono ?_; rintro e w' ⟨rfl, hw⟩; replace hw := hw.symm; subst hw) | (go_at_call 14; refine (btw_no _ _ _ _ (by omega)).mono ?_; rintro e w' ⟨rfl, hw⟩; replace hw := hw.symm; subst hw))
  have BV := hid (Below.alloc (Below.refl w4.heap.size w4) (Nat.le_refl _) (.cells #[.int .i64 0, .slice none 0 0] 30))
  refine (HTO.out _ ((of_alloc T4.out).trans (BV.out.mono (by omega)))).mono ?_
  rintro e w6 ⟨⟨a6, c6, r6, rfl, ho6, hu6⟩, b6⟩
  have hr6 := hu6 r HCK.out HMM.out
  subst hr6
  have hsz6 := b6.size
  simp only [World.size_alloc] at hsz6
  have q0 : w6.cell? ⟨w4.heap.size, 0, none⟩ = some (.int .i64 0) := (b6.cell (by simp)).trans (World.cell?_alloc_at _ _ _ _ rfl)
  have q1 : w6.cell? ⟨w4.heap.size, 1, none⟩ = some (.slice none 0 0) := (b6.cell (by simp)).trans (World.cell?_alloc_at _ _ _ _ rfl)
  have g0 : w6.frozen? ⟨w4.heap.size, 0, none⟩ = false := (b6.frozen (by simp)).trans (World.frozen?_alloc_at _ _ _ _ rfl)
  have g1 : w6.frozen? ⟨w4.heap.size, 1, none⟩ = false := (b6.frozen (by simp)).trans (World.frozen?_alloc_at _ _ _ _ rfl)
  simp only [World.size_alloc] at ho6
  have Q7 := hid (CellS.set (s := size) q0 q1 (by omega) ho6)
  have B7 := hid (Below.setCell (Below.setCell (BV.out.trans (b6.mono (by simp))) (p := ⟨w4.heap.size, 0, none⟩) (Nat.le_refl _) (.int .i64 size)) (p := ⟨w4.heap.size, 1, none⟩) (Nat.le_refl _) (.slice a6 r.length c6))
  have S7 := hid (S4.out.step B7.out)
  have T7 := hid (T4.out.trans (B7.out.mono (by omega)))
  clear b6 hu6 c0 c1 ho6
  have c0 := boxc T7.out 0
  have c1 := boxc T7.out 1
  simp only [List.getElem?_toArray, List.getElem?_cons_zero, List.getElem?_cons_succ] at c0 c1
  go_wp2_with fail
  refine (HCH.out _ (of_alloc T7.out)).mono ?_
  rintro e w8 ⟨rfl, b8⟩
  have S8 := hid (S7.out.step b8)
  have Q8 := hid (Q7.out.step b8)
  have HB8 := hid (bel_of (of_alloc T7.out) b8)
  clear b8
  have s0 := S8.out.c0
  have s1 := S8.out.c1
  have u0 := Q8.out.c0
  have u1 := Q8.out.c1
  have hmm : (M == M) = true := by simp
  go_wp2_with fail
  refine (same_true S8.out Q8.out).mono ?_
  rintro e w9 ⟨rfl, b9⟩
  go_wp2_with fail
  go_ret
  exact ⟨by first | rfl | simp, bel_of HB8.out b9⟩
theorem tableOwns_walk (size : Int) (a : Option Addr) (len cap : Nat) (l : List Win) (t o : Int) (w : World) (xs : wf64 size) (h : IsWns w a len cap l) (wt : wf64 t) (wo : wf64 o) :
    Calls Try.prog 3 #[.agg #[.int .i64 size, .slice a len cap], .int .i64 t, .int .i64 o] w fun e w' => e = .returned (.bool true) ∧ Below w.heap.size w w' := by
  obtain ⟨rfl, _, _, hr, _⟩ := h
  by_cases hk : tchk size l = 0
  · by_cases ht : 0 ≤ t ∧ t ≤ 1099511627776 <;> by_cases ho : 0 ≤ o ∧ o ≤ 15
    · exact tableOwns_yes_yes size a cap l t o w hr hk ht.1 ht.2 ho.1 ho.2
    · exact tableOwns_yes_no size a cap l t o w hr hk ht.1 ht.2 ho
    · exact tableOwns_no_yes size a cap l t o w hr hk ht ho.1 ho.2
    · exact tableOwns_no_no size a cap l t o w hr hk ht ho
  · exact tableOwns_bad size a cap l t o w hr hk
end TabC
end Go.Proofs.Ytgehdpohiphcpaa
