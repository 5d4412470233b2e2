/- The walk of TaskLess. -/
import Derived.Test.YtpeapmefnabhfaaTskM2
import Derived.Test.YtpeapmefnabhfaaTskV
set_option linter.unusedVariables false
namespace Go.Proofs.Ytpeapmefnabhfaa
open Go.RowKit hiding tok
open SpanM SupM SpanC TaskM
open RowsO hiding Tk
namespace TaskC
theorem boxa {w a b : World} {o p : Obj} (h : Below (w.heap.size + 1) (w.alloc o) a) (k : Below (a.alloc p).heap.size (a.alloc p) b) : Below (w.heap.size + 1) (w.alloc o) b :=
  (h.alloc (by have := h.size; simpa using this) p).trans (k.mono (by have := h.size; simp at this ⊢; omega))
set_option maxHeartbeats 1000000 in
theorem less_e1 (a sa : Option Addr) (cap scap : Nat) (l : List Tk) (size : Int) (sl : List Sp) (k long due : Int) (w : World) (hr : Tks w a l) (hq : Sps w sa sl) (he : fitE l size sl ≠ 0) :
    Calls Try.prog 8 #[.slice a l.length cap, .agg #[.int .i64 size, .slice sa sl.length scap], .int .i64 k, .int .i64 long, .int .i64 due] w fun e w' => e = .returned (.bool true) ∧ Below w.heap.size w w' := by
  have HF := hid (fun W (h : Below w.heap.size w W) => Fits_any a sa cap scap l sl size W (hr.below h (Nat.le_refl _)) (hq.below h (Nat.le_refl _)))
  obtain ⟨e2, e3⟩ := fit_err he
  rw [e2, e3] at HF
  have hne : (fitE l size sl != 0) = true := by simp [he]
  clear hr hq he e2 e3
  generalize fitE l size sl = E at *
  go_enter Try.func8, Try.ntmps8
  go_wp2_with fail
  refine (HF.out _ (by go_grown)).mono ?_
  rintro e w1 ⟨rfl, b⟩
  have HB1 : Hid (Below (w.heap.size + 1) (w.alloc (.cells #[.int .i64 size, .slice sa sl.length scap] 38)) w1) := box1 b
  clear b
  have c1 : w1.cell? ⟨w.heap.size, 0, none⟩ = some (.int .i64 size) := boxc HB1.out 0
  have c2 : w1.cell? ⟨w.heap.size, 1, none⟩ = some (.slice sa sl.length scap) := boxc HB1.out 1
  go_wp2_with fail
  refine ((fun (_ : Below w.heap.size w _) => tlives _) (of_alloc HB1.out)).mono ?_
  rintro e w2 ⟨rfl, b⟩
  have HB2 : Hid (Below (w.heap.size + 1) (w.alloc (.cells #[.int .i64 size, .slice sa sl.length scap] 38)) w2) := box2 HB1.out b
  clear b c1 c2
  have c1 : w2.cell? ⟨w.heap.size, 0, none⟩ = some (.int .i64 size) := boxc HB2.out 0
  have c2 : w2.cell? ⟨w.heap.size, 1, none⟩ = some (.slice sa sl.length scap) := boxc HB2.out 1
  go_wp2_with fail
  refine ((fun (_ : Below w.heap.size w _) => tlives _) (of_alloc HB2.out)).mono ?_
  rintro e w3 ⟨rfl, b⟩
  have HB3 : Hid (Below (w.heap.size + 1) (w.alloc (.cells #[.int .i64 size, .slice sa sl.length scap] 38)) w3) := box2 HB2.out b
  clear b c1 c2
  have c1 : w3.cell? ⟨w.heap.size, 0, none⟩ = some (.int .i64 size) := boxc HB3.out 0
  have c2 : w3.cell? ⟨w.heap.size, 1, none⟩ = some (.slice sa sl.length scap) := boxc HB3.out 1
  go_wp2_with fail
  go_ret
  exact ⟨by first | rfl | simp, (of_alloc HB3.out)⟩
set_option maxHeartbeats 1000000 in
theorem less_e2 (a sa : Option Addr) (cap scap : Nat) (l : List Tk) (size : Int) (sl : List Sp) (k long due : Int) (w : World) (hr : Tks w a l) (hq : Sps w sa sl) (he : fitE l size sl = 0) (hB : fitB l size sl = false) :
    Calls Try.prog 8 #[.slice a l.length cap, .agg #[.int .i64 size, .slice sa sl.length scap], .int .i64 k, .int .i64 long, .int .i64 due] w fun e w' => e = .returned (.bool true) ∧ Below w.heap.size w w' := by
  have HF := hid (fun W (h : Below w.heap.size w W) => Fits_any a sa cap scap l sl size W (hr.below h (Nat.le_refl _)) (hq.below h (Nat.le_refl _)))
  rw [he, hB] at HF
  clear hr hq he hB
  generalize fitN l size sl = X at *
  go_enter Try.func8, Try.ntmps8
  go_wp2_with fail
  refine (HF.out _ (by go_grown)).mono ?_
  rintro e w1 ⟨rfl, b⟩
  have HB1 : Hid (Below (w.heap.size + 1) (w.alloc (.cells #[.int .i64 size, .slice sa sl.length scap] 38)) w1) := box1 b
  clear b
  have c1 : w1.cell? ⟨w.heap.size, 0, none⟩ = some (.int .i64 size) := boxc HB1.out 0
  have c2 : w1.cell? ⟨w.heap.size, 1, none⟩ = some (.slice sa sl.length scap) := boxc HB1.out 1
  go_wp2_with fail
  refine ((fun (_ : Below w.heap.size w _) => tlives _) (of_alloc HB1.out)).mono ?_
  rintro e w2 ⟨rfl, b⟩
  have HB2 : Hid (Below (w.heap.size + 1) (w.alloc (.cells #[.int .i64 size, .slice sa sl.length scap] 38)) w2) := box2 HB1.out b
  clear b c1 c2
  have c1 : w2.cell? ⟨w.heap.size, 0, none⟩ = some (.int .i64 size) := boxc HB2.out 0
  have c2 : w2.cell? ⟨w.heap.size, 1, none⟩ = some (.slice sa sl.length scap) := boxc HB2.out 1
  go_wp2_with fail
  refine ((fun (_ : Below w.heap.size w _) => tlives _) (of_alloc HB2.out)).mono ?_
  rintro e w3 ⟨rfl, b⟩
  have HB3 : Hid (Below (w.heap.size + 1) (w.alloc (.cells #[.int .i64 size, .slice sa sl.length scap] 38)) w3) := box2 HB2.out b
  clear b c1 c2
  have c1 : w3.cell? ⟨w.heap.size, 0, none⟩ = some (.int .i64 size) := boxc HB3.out 0
  have c2 : w3.cell? ⟨w.heap.size, 1, none⟩ = some (.slice sa sl.length scap) := boxc HB3.out 1
  go_wp2_with fail
  go_ret
  exact ⟨by first | rfl | simp, (of_alloc HB3.out)⟩
set_option maxHeartbeats 1000000 in
theorem less_e3 (a sa : Option Addr) (cap scap : Nat) (l : List Tk) (size : Int) (sl : List Sp) (k long due : Int) (w : World) (hr : Tks w a l) (hq : Sps w sa sl) (he : fitE l size sl = 0) (hB : fitB l size sl = true) (h1 : k < 0) :
    Calls Try.prog 8 #[.slice a l.length cap, .agg #[.int .i64 size, .slice sa sl.length scap], .int .i64 k, .int .i64 long, .int .i64 due] w fun e w' => e = .returned (.bool true) ∧ Below w.heap.size w w' := by
  have HF := hid (fun W (h : Below w.heap.size w W) => Fits_any a sa cap scap l sl size W (hr.below h (Nat.le_refl _)) (hq.below h (Nat.le_refl _)))
  rw [he, hB] at HF
  clear hr hq he hB
  generalize fitN l size sl = X at *
  go_enter Try.func8, Try.ntmps8
  go_wp2_with fail
  refine (HF.out _ (by go_grown)).mono ?_
  rintro e w1 ⟨rfl, b⟩
  have HB1 : Hid (Below (w.heap.size + 1) (w.alloc (.cells #[.int .i64 size, .slice sa sl.length scap] 38)) w1) := box1 b
  clear b
  have c1 : w1.cell? ⟨w.heap.size, 0, none⟩ = some (.int .i64 size) := boxc HB1.out 0
  have c2 : w1.cell? ⟨w.heap.size, 1, none⟩ = some (.slice sa sl.length scap) := boxc HB1.out 1
  go_wp2_with fail
  refine ((fun (_ : Below w.heap.size w _) => tlives _) (of_alloc HB1.out)).mono ?_
  rintro e w2 ⟨rfl, b⟩
  have HB2 : Hid (Below (w.heap.size + 1) (w.alloc (.cells #[.int .i64 size, .slice sa sl.length scap] 38)) w2) := box2 HB1.out b
  clear b c1 c2
  have c1 : w2.cell? ⟨w.heap.size, 0, none⟩ = some (.int .i64 size) := boxc HB2.out 0
  have c2 : w2.cell? ⟨w.heap.size, 1, none⟩ = some (.slice sa sl.length scap) := boxc HB2.out 1
  go_wp2_with fail
  refine ((fun (_ : Below w.heap.size w _) => tlives _) (of_alloc HB2.out)).mono ?_
  rintro e w3 ⟨rfl, b⟩
  have HB3 : Hid (Below (w.heap.size + 1) (w.alloc (.cells #[.int .i64 size, .slice sa sl.length scap] 38)) w3) := box2 HB2.out b
  clear b c1 c2
  have c1 : w3.cell? ⟨w.heap.size, 0, none⟩ = some (.int .i64 size) := boxc HB3.out 0
  have c2 : w3.cell? ⟨w.heap.size, 1, none⟩ = some (.slice sa sl.length scap) := boxc HB3.out 1
  go_wp2_with fail
  go_ret
  exact ⟨by first | rfl | simp, (of_alloc HB3.out)⟩
set_option maxHeartbeats 1000000 in
theorem less_e4 (a sa : Option Addr) (cap scap : Nat) (l : List Tk) (size : Int) (sl : List Sp) (k long due : Int) (w : World) (hr : Tks w a l) (hq : Sps w sa sl) (he : fitE l size sl = 0) (hB : fitB l size sl = true) (h1 : ¬ k < 0) (h2 : (l.length : Int) ≤ k) :
    Calls Try.prog 8 #[.slice a l.length cap, .agg #[.int .i64 size, .slice sa sl.length scap], .int .i64 k, .int .i64 long, .int .i64 due] w fun e w' => e = .returned (.bool true) ∧ Below w.heap.size w w' := by
  have HF := hid (fun W (h : Below w.heap.size w W) => Fits_any a sa cap scap l sl size W (hr.below h (Nat.le_refl _)) (hq.below h (Nat.le_refl _)))
  rw [he, hB] at HF
  clear hr hq he hB
  generalize fitN l size sl = X at *
  go_enter Try.func8, Try.ntmps8
  go_wp2_with fail
  refine (HF.out _ (by go_grown)).mono ?_
  rintro e w1 ⟨rfl, b⟩
  have HB1 : Hid (Below (w.heap.size + 1) (w.alloc (.cells #[.int .i64 size, .slice sa sl.length scap] 38)) w1) := box1 b
  clear b
  have c1 : w1.cell? ⟨w.heap.size, 0, none⟩ = some (.int .i64 size) := boxc HB1.out 0
  have c2 : w1.cell? ⟨w.heap.size, 1, none⟩ = some (.slice sa sl.length scap) := boxc HB1.out 1
  go_wp2_with fail
  refine ((fun (_ : Below w.heap.size w _) => tlives _) (of_alloc HB1.out)).mono ?_
  rintro e w2 ⟨rfl, b⟩
  have HB2 : Hid (Below (w.heap.size + 1) (w.alloc (.cells #[.int .i64 size, .slice sa sl.length scap] 38)) w2) := box2 HB1.out b
  clear b c1 c2
  have c1 : w2.cell? ⟨w.heap.size, 0, none⟩ = some (.int .i64 size) := boxc HB2.out 0
  have c2 : w2.cell? ⟨w.heap.size, 1, none⟩ = some (.slice sa sl.length scap) := boxc HB2.out 1
  go_wp2_with fail
  refine ((fun (_ : Below w.heap.size w _) => tlives _) (of_alloc HB2.out)).mono ?_
  rintro e w3 ⟨rfl, b⟩
  have HB3 : Hid (Below (w.heap.size + 1) (w.alloc (.cells #[.int .i64 size, .slice sa sl.length scap] 38)) w3) := box2 HB2.out b
  clear b c1 c2
  have c1 : w3.cell? ⟨w.heap.size, 0, none⟩ = some (.int .i64 size) := boxc HB3.out 0
  have c2 : w3.cell? ⟨w.heap.size, 1, none⟩ = some (.slice sa sl.length scap) := boxc HB3.out 1
  go_wp2_with fail
  go_ret
  exact ⟨by first | rfl | simp, (of_alloc HB3.out)⟩
theorem less_len {l : List Tk} {size : Int} {sl : List Sp} (h : fitE l size sl = 0) : l.length ≤ 16 := (tchk_zero (fitE_zero h).1).1
set_option maxHeartbeats 4000000 in
theorem less_ok (a sa : Option Addr) (cap scap : Nat) (l : List Tk) (size : Int) (sl : List Sp) (kn : Nat) (long due : Int) (p q : List Tk) (x y z : Int) (w : World) (hr : Tks w a l) (hq : Sps w sa sl) (az : a = none → cap = 0) (he : fitE l size sl = 0) (hB : fitB l size sl = true) (hF : Fit l size sl) (hf : fitN l size sl = 0) (hlt : kn < l.length) (hp : p.length = kn) (hl : l = p ++ (x, y, z) :: q) :
    Calls Try.prog 8 #[.slice a l.length cap, .agg #[.int .i64 size, .slice sa sl.length scap], .int .i64 (kn : Int), .int .i64 long, .int .i64 due] w fun e w' => e = .returned (.bool true) ∧ Below w.heap.size w w' := by
  have HF := hid (fun W (h : Below w.heap.size w W) => Fits_any a sa cap scap l sl size W (hr.below h (Nat.le_refl _)) (hq.below h (Nat.le_refl _)))
  have hok : tok (x, y, z) := (tchk_zero (fitE_zero he).1).2 _ (by rw [hl]; simp)
  have hlen := less_len he
  obtain ⟨t1, t2, t3, t4, t5, t6⟩ := hok
  simp only at t1 t2 t3 t4 t5 t6
  obtain ⟨s1, s2, s3, s4⟩ := chk_zero (fitE_zero he).2.1
  have D := less_del (p := p) (q := q) (x := (x, y, z)) (by rw [← hl]; exact he) (by rw [← hl]; exact hF)
  have mL : max 1 (min long x) ≤ x ∧ 1 ≤ max 1 (min long x) := by omega
  have mD : z ≤ max z (min due y) ∧ max z (min due y) ≤ y := by omega
  have E := less_set (p := p) (q := q) (x := (x, y, z)) (y := (max 1 (min long x), y, max z (min due y))) (by rw [← hl]; exact he) (by rw [← hl]; exact hF) ⟨t1, t2, by simp only; omega, by simp only; omega, by simp only; omega, by simp only; omega⟩ rfl mD.1 mL.1
  have A := less_all he hF
  have HA := hid (fun W (h : Below w.heap.size w W) => Fits_any a (some ⟨W.heap.size, 0, none⟩) cap 1 l [(0, size)] size ((W.alloc (.cells #[.int .i64 0, .int .i64 size] 55)).alloc (.cells #[.int .i64 size, .slice (some ⟨W.heap.size, 0, none⟩) 1 1] 38)) (hr.below ((h.alloc h.size _).alloc (by have := h.size; simp; omega) _) (Nat.le_refl _)) (.inr ⟨_, 0, rfl, fun i hi => by
    match i, hi with
    | 0, _ => exact ⟨(World.cell?_alloc_lt _ _ _ (by simp)).trans (World.cell?_alloc_at _ _ _ _ rfl), (World.cell?_alloc_lt _ _ _ (by simp)).trans (World.cell?_alloc_at _ _ _ _ rfl)⟩⟩))
  rw [A.1, A.2.1, A.2.2] at HA
  simp only [List.length_singleton] at HA
  have HC := hid (fun W (h : Below w.heap.size w W) => cloneTk_any a cap l W (hr.below h (Nat.le_refl _)) az (by unfold maxLen; omega) (by omega))
  have HD := hid (fun B g c W (h : OwnTk W B (.slice (some ⟨g, 0, none⟩) l.length c) l) (hB : B ≤ W.heap.size) => deleteTk_any B g c p q (x, y, z) W (by rw [← hl]; exact h) hB (by rw [← hl]; omega))
  rw [← hl, hp] at HD
  have HL := hid (fun b c W (h : Tks W b (p ++ q)) (h' : Below w.heap.size w W) => Fits_any b sa c scap (p ++ q) sl size W h (hq.below h' (Nat.le_refl _)))
  rw [D.1, D.2.1, D.2.2] at HL
  have HO := hid (fun b c W (h : Tks W b (p ++ (max 1 (min long x), y, max z (min due y)) :: q)) (h' : Below w.heap.size w W) => Fits_any b sa c scap (p ++ (max 1 (min long x), y, max z (min due y)) :: q) sl size W h (hq.below h' (Nat.le_refl _)))
  have hlq : (p ++ (max 1 (min long x), y, max z (min due y)) :: q).length = l.length := by rw [hl]; simp
  rw [E.1, E.2.1, E.2.2, hlq] at HO
  rw [he, hB, hf] at HF
  have HR := hid hr
  have HLP := hid hl
  have HP := hid hp
  have HLQ := hid hlq
  have HG : Hid (l.getD kn zTk = (x, y, z)) := by
    show _ = _
    rw [hl, ← hp]; simp [List.getD]
  obtain ⟨K1, hK1⟩ : ∃ K1, K1 = (p ++ q).length := ⟨_, rfl⟩
  rw [← hK1] at HL HD
  have HK1 := hid hK1
  clear hr hq he hB hF hf hl hp hlq D E A s4 az hK1
  have i1 : (0 : Int) ≤ (kn : Int) := by omega
  have i2 : (kn : Int) < (l.length : Int) := by omega
  have i3 : ¬ (kn : Int) < 0 := by omega
  have i4 : ¬ (l.length : Int) ≤ (kn : Int) := by omega
  go_enter Try.func8, Try.ntmps8
  go_wp2_with fail
  refine (HF.out _ (by go_grown)).mono ?_
  rintro e w1 ⟨rfl, b⟩
  have HB1 : Hid (Below (w.heap.size + 1) (w.alloc (.cells #[.int .i64 size, .slice sa sl.length scap] 38)) w1) := box1 b
  clear b
  have c1 : w1.cell? ⟨w.heap.size, 0, none⟩ = some (.int .i64 size) := boxc HB1.out 0
  have c2 : w1.cell? ⟨w.heap.size, 1, none⟩ = some (.slice sa sl.length scap) := boxc HB1.out 1
  go_wp2_with fail
  refine ((fun (_ : Below w.heap.size w _) => tlives _) (of_alloc HB1.out)).mono ?_
  rintro e w2 ⟨rfl, b⟩
  have HB2 : Hid (Below (w.heap.size + 1) (w.alloc (.cells #[.int .i64 size, .slice sa sl.length scap] 38)) w2) := box2 HB1.out b
  clear b c1 c2
  have c1 : w2.cell? ⟨w.heap.size, 0, none⟩ = some (.int .i64 size) := boxc HB2.out 0
  have c2 : w2.cell? ⟨w.heap.size, 1, none⟩ = some (.slice sa sl.length scap) := boxc HB2.out 1
  go_wp2_with fail
  refine (HC.out _ (of_alloc HB2.out)).mono ?_
  rintro e w3 ⟨⟨v3, rfl, ho3⟩, b⟩
  have HB3 := hid (box2 HB2.out b)
  obtain ⟨g3, cp3, rfl, gb3, gl3⟩ := own_some ho3 (by omega)
  have HO3 := hid ho3
  have hz3 : w2.heap.size ≤ w3.heap.size := b.size
  clear b ho3 c1 c2
  go_wp2_with fail
  refine (HD.out _ _ _ _ HO3.out hz3).mono ?_
  rintro e w4 ⟨rfl, ho4, b⟩
  have HB4 := hid (HB3.out.trans (b.mono (by have := HB2.out.size; simpa using this)))
  have c1 : w4.cell? ⟨w.heap.size, 0, none⟩ = some (.int .i64 size) := boxc HB4.out 0
  have c2 : w4.cell? ⟨w.heap.size, 1, none⟩ = some (.slice sa sl.length scap) := boxc HB4.out 1
  obtain ⟨a4, q4, hv4, hr4⟩ := ho4.rows
  rw [← HK1.out] at hv4
  injection hv4 with e1 e2 e3
  subst e1 e3
  have HF4 := hid (HL.out _ cp3 w4 hr4 (of_alloc HB4.out))
  clear b ho4 hr4 e2
  go_wp2_with fail
  refine HF4.out.mono ?_
  rintro e w5 ⟨rfl, b⟩
  have HB5 := hid (box2 HB4.out b)
  clear b c1 c2
  go_wp2_with fail
  refine (HC.out _ (of_alloc HB5.out)).mono ?_
  rintro e w6 ⟨⟨v6, rfl, ho6⟩, b⟩
  have HB6 := hid (box2 HB5.out b)
  obtain ⟨g6, cp6, rfl, gb6, gl6⟩ := own_some ho6 (by omega)
  have hs5 : w.heap.size + 1 ≤ w5.heap.size := by have := HB5.out.size; simpa using this
  obtain ⟨⟨k1, k2, k3⟩, k4⟩ := own_cells ho6 rfl kn hlt
  obtain ⟨bl, ol, hal, hbl, m1, m2, m3⟩ := (HR.out.below (of_alloc HB6.out) (Nat.le_refl _)).at kn hlt
  rw [HG.out] at k1 k2 k3 m1 m2 m3
  simp only at k1 k2 k3 m1 m2 m3
  subst hal
  have k4' := k4 (kn * 3)
  have ho6' : OwnTk w6 w5.heap.size (.slice (some ⟨g6, 0, none⟩) l.length cp6) (p ++ (x, y, z) :: q) := by
    have := ho6
    generalize l.length = N at *
    rw [← HLP.out]; exact this
  have HS7 := own_long (v := max 1 (min long x)) ho6' (by rw [← HLP.out])
  rw [HP.out] at HS7
  have HW7 := hid HS7
  clear b ho6 ho6' HS7 k4
  go_wp2_with fail
  obtain ⟨o7, gr7⟩ := HW7.out
  have hb67 : Below w5.heap.size w6 (w6.setCell ⟨g6, kn * 3, none⟩ (.int .i64 (max 1 (min long x)))) := Below.grown (Below.refl _ _) gr7 (by omega) (fun j hj => by simp at hj; omega)
  generalize w6.setCell ⟨g6, kn * 3, none⟩ (.int .i64 (max 1 (min long x))) = w7 at *
  have HB7 := hid (HB6.out.trans (hb67.mono hs5))
  have HR7 := HR.out.below (of_alloc HB7.out) (Nat.le_refl _)
  clear k1 k2 k3 m1 m2 m3 k4'
  have hlen7 : l.length = (p ++ (max 1 (min long x), y, z) :: q).length := by rw [HLP.out]; simp
  obtain ⟨⟨k1, k2, k3⟩, k4⟩ := own_cells o7 hlen7 kn (by rw [← hlen7]; exact hlt)
  obtain ⟨bl', ol', hal, hbl', m1, m2, m3⟩ := HR7.at kn hlt
  simp only [Option.some.injEq, Addr.mk.injEq, and_true] at hal
  obtain ⟨rfl, rfl⟩ := hal
  have hG7 : (p ++ (max 1 (min long x), y, z) :: q).getD kn zTk = (max 1 (min long x), y, z) := by rw [← HP.out]; simp [List.getD]
  rw [hG7] at k3
  rw [HG.out] at m2 m3
  simp only at k3 m2 m3
  have k4' := k4 (kn * 3 + 2)
  have HS8 := own_due (v := max z (min due y)) o7 hlen7
  rw [HP.out] at HS8
  have HW8 := hid HS8
  have gs7 : w5.heap.size ≤ w7.heap.size := by have := hb67.size; omega
  clear o7 gr7 HS8 k4 hG7 k1 k2 m1 HR7 hlen7 hb67
  obtain ⟨bl', ol', hal, hbo, _⟩ := HR.out.at kn hlt
  simp only [Option.some.injEq, Addr.mk.injEq, and_true] at hal
  obtain ⟨rfl, rfl⟩ := hal
  have y1 : (w7.setCell ⟨g6, kn * 3 + 2, none⟩ (.int .i64 (max z (min due y)))).drew.cell? ⟨bl, ol + kn * 3 + 1, none⟩ = some (.int .i64 y) := (World.cell?_setCell_other _ _ _ _ (by intro e; have h1 : bl = g6 := (by first | exact congrArg Addr.block e | exact (congrArg Addr.block e).symm); omega)).trans m2
  have y2 : (w7.setCell ⟨g6, kn * 3 + 2, none⟩ (.int .i64 (max z (min due y)))).drew.cell? ⟨bl, ol + kn * 3 + 2, none⟩ = some (.int .i64 z) := (World.cell?_setCell_other _ _ _ _ (by intro e; have h1 : bl = g6 := (by first | exact congrArg Addr.block e | exact (congrArg Addr.block e).symm); omega)).trans m3
  go_region_held3 (fun W => W.cell? ⟨bl, ol + kn * 3 + 1, none⟩ = some (.int .i64 y) ∧ W.cell? ⟨bl, ol + kn * 3 + 2, none⟩ = some (.int .i64 z)) (go_keep) (fail)
  obtain ⟨o8, gr8⟩ := HW8.out
  have hb78 : Below w5.heap.size w7 (w7.setCell ⟨g6, kn * 3 + 2, none⟩ (.int .i64 (max z (min due y)))).drew := (Below.grown (Below.refl _ _) gr8 gs7 (fun j hj => by simp at hj; omega)).drew
  have o8' := World.ownsRow.drew o8
  clear y1 y2 o8 gr8 HW8 k3 k4' m2 m3
  generalize (w7.setCell ⟨g6, kn * 3 + 2, none⟩ (.int .i64 (max z (min due y)))).drew = w8 at *
  have HB8 := hid (HB7.out.trans (hb78.mono hs5))
  have c1 : w8.cell? ⟨w.heap.size, 0, none⟩ = some (.int .i64 size) := boxc HB8.out 0
  have c2 : w8.cell? ⟨w.heap.size, 1, none⟩ = some (.slice sa sl.length scap) := boxc HB8.out 1
  obtain ⟨a8, q8, hv8, hr8⟩ := OwnTk.rows (show OwnTk w8 w5.heap.size (.slice (some ⟨g6, 0, none⟩) l.length cp6) (p ++ (max 1 (min long x), y, max z (min due y)) :: q) from o8')
  rw [HLQ.out] at hv8
  injection hv8 with e1 e2 e3
  subst e1 e3
  have HF8 := hid (HO.out _ cp6 w8 hr8 (of_alloc HB8.out))
  clear o8' hr8 e2 hb78
  go_wp2_with fail
  refine HF8.out.mono ?_
  rintro e w9 ⟨rfl, b⟩
  have HB9 := hid (box2 HB8.out b)
  clear b c1 c2
  have c1 : w9.cell? ⟨w.heap.size, 0, none⟩ = some (.int .i64 size) := boxc HB9.out 0
  go_wp2_with fail
  refine (HA.out _ (of_alloc HB9.out)).mono ?_
  rintro e w10 ⟨rfl, b⟩
  have HB10 := hid (boxa (HB9.out.alloc (by have := HB9.out.size; simpa using this) _) b)
  clear b c1
  go_wp2_with fail
  go_ret
  exact ⟨by first | rfl | simp, of_alloc HB10.out⟩
theorem tk_split (l : List Tk) (k : Nat) (h : k < l.length) : l = l.take k ++ l.getD k zTk :: l.drop (k + 1) := by
  have e : l.getD k zTk = l[k] := by simp [List.getD, h]
  rw [e, ← List.drop_eq_getElem_cons h, List.take_append_drop]
theorem taskLess_walk (a : Option Addr) (len cap : Nat) (l : List Tk) (size : Int) (sa : Option Addr) (slen scap : Nat) (sl : List Sp) (k long due : Int) (w : World) (h : IsTks w a len cap l) (hs : wf64 size) (k0 : IsSps w sa slen scap sl) (hk : wf64 k) (hlo : wf64 long) (hdu : wf64 due) :
    Calls Try.prog 8 #[.slice a len cap, .agg #[.int .i64 size, .slice sa slen scap], .int .i64 k, .int .i64 long, .int .i64 due] w fun e w' => e = .returned (.bool true) ∧ Below w.heap.size w w' := by
  obtain ⟨rfl, h1, h2, hr, az, _⟩ := h
  obtain ⟨rfl, k1, k2, hq, _, _⟩ := k0
  by_cases he : fitE l size sl = 0
  · rcases fit_cases he with ⟨f, g, hF⟩ | ⟨_, _, g, _⟩
    · by_cases c1 : k < 0
      · exact less_e3 a sa cap scap l size sl k long due w hr hq he g c1
      · by_cases c2 : (l.length : Int) ≤ k
        · exact less_e4 a sa cap scap l size sl k long due w hr hq he g c1 c2
        · obtain ⟨kn, rfl⟩ : ∃ kn : Nat, k = (kn : Int) := ⟨k.toNat, by omega⟩
          have hlt : kn < l.length := by omega
          exact less_ok a sa cap scap l size sl kn long due (l.take kn) (l.drop (kn + 1)) (l.getD kn zTk).1 (l.getD kn zTk).2.1 (l.getD kn zTk).2.2 w hr hq (fun h => (az h).2) he g hF f hlt (by rw [List.length_take]; omega) (tk_split l kn hlt)
    · exact less_e2 a sa cap scap l size sl k long due w hr hq he g
  · exact less_e1 a sa cap scap l size sl k long due w hr hq he
end TaskC
end Go.Proofs.Ytpeapmefnabhfaa
