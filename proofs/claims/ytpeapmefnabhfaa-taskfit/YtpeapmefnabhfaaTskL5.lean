/- The walk of TaskFit. -/
import Derived.Test.YtpeapmefnabhfaaTskM
import Derived.Test.YtpeapmefnabhfaaTskV
set_option linter.unusedVariables false
namespace Go.Proofs.Ytpeapmefnabhfaa
open Go.RowKit hiding tok
open SpanM SupM SpanC TaskM
open RowsO hiding Tk
namespace TaskC
/-- the memory of a call of TaskFit: the list and the set, each in its box -/
structure FBox (w W : World) (a : Option Addr) (cap : Nat) (l : List Tk) (size : Int) (sa : Option Addr) (scap : Nat) (sl : List Sp) : Prop where
  c0 : W.cell? ⟨w.heap.size, 0, none⟩ = some (.slice a l.length cap)
  c1 : W.cell? ⟨w.heap.size + 1, 0, none⟩ = some (.int .i64 size)
  c2 : W.cell? ⟨w.heap.size + 1, 1, none⟩ = some (.slice sa sl.length scap)
  be : Below w.heap.size w W
theorem FBox.start (w : World) (a : Option Addr) (cap : Nat) (l : List Tk) (size : Int) (sa : Option Addr) (scap : Nat) (sl : List Sp) : FBox w ((w.alloc (.cells #[.slice a l.length cap] 22)).alloc (.cells #[.int .i64 size, .slice sa sl.length scap] 38)) a cap l size sa scap sl where
  c0 := (World.cell?_alloc_lt _ _ _ (by simp)).trans (World.cell?_alloc_at _ _ _ _ rfl)
  c1 := World.cell?_alloc_at _ _ _ _ (by simp)
  c2 := World.cell?_alloc_at _ _ _ _ (by simp)
  be := by go_grown
theorem FBox.step {w W W' : World} {a : Option Addr} {cap : Nat} {l : List Tk} {size : Int} {sa : Option Addr} {scap : Nat} {sl : List Sp} (h : FBox w W a cap l size sa scap sl) (hb : Below W.heap.size W W') : FBox w W' a cap l size sa scap sl where
  c0 := (hb.cell (World.block_lt_of_cell? _ _ h.c0)).trans h.c0
  c1 := (hb.cell (World.block_lt_of_cell? _ _ h.c1)).trans h.c1
  c2 := (hb.cell (World.block_lt_of_cell? _ _ h.c2)).trans h.c2
  be := bel_of h.be hb
theorem enough_any (a : Option Addr) (cap : Nat) (l : List Tk) (size : Int) (sa : Option Addr) (scap : Nat) (sl : List Sp) (n : Int) (w W : World) (hr : Tks w a l) (hq : Sps w sa sl) (hB : FBox w W a cap l size sa scap sl) (hk : tchk l = 0) (hc : chk size sl = 0) (n1 : 0 ≤ n) (n2 : n ≤ 549755813888) :
    Calls Try.prog 25 #[.int .i64 n, .pointer (some ⟨w.heap.size, 0, none⟩), .pointer (some ⟨w.heap.size + 1, 0, none⟩)] W fun e w' => e = .returned (.bool (decide (dem l n ≤ lst size sl n))) ∧ Below W.heap.size W w' := by
  have hq' := hq.below hB.be (Nat.le_refl _)
  have H1 := hid (fun V (h : Below W.heap.size W V) => Demand_any a cap l n V ((hr.below hB.be (Nat.le_refl _)).below h (Nat.le_refl _)))
  have H2 := hid (fun V (h : Below W.heap.size W V) => least_any size n sa scap sl V ((hq.below hB.be (Nat.le_refl _)).below h (Nat.le_refl _)))
  have e1 : demE l n = 0 := demE_of hk n1 (by omega)
  have e2 : leastE size sl n = 0 := sE_of hc n1 n2
  have e3 : leastV size sl n = lst size sl n := by unfold leastV; rw [if_pos e2]
  rw [e1, demV_of e1] at H1
  rw [e2, e3] at H2
  have c0 := hB.c0
  have c1 := hB.c1
  have c2 := hB.c2
  have HB := hid hB
  clear hr hq hB hq' hk hc e1 e2 e3
  generalize dem l n = d at *
  generalize lst size sl n = s at *
  go_enter Try.func25, Try.ntmps25
  go_wp2_with fail
  refine (H1.out _ (Below.refl _ _)).mono ?_
  rintro e w1 ⟨rfl, b⟩
  have HB1 := hid b
  have d1 := (b.cell (World.block_lt_of_cell? _ _ c1)).trans c1
  have d2 := (b.cell (World.block_lt_of_cell? _ _ c2)).trans c2
  clear b c0 c1 c2
  go_wp2_with fail
  refine (H2.out _ HB1.out).mono ?_
  rintro e w2 ⟨rfl, b⟩
  have HB2 := hid (bel_of HB1.out b)
  clear b d1 d2
  go_wp2_with fail
  go_ret
  exact ⟨by first | rfl | simp, HB2.out⟩
set_option maxHeartbeats 1000000 in
theorem fit_e (a sa : Option Addr) (cap scap : Nat) (l : List Tk) (size : Int) (sl : List Sp) (n : Int) (w : World) (hr : Tks w a l) (hq : Sps w sa sl) (he : fitE l size sl ≠ 0) :
    Calls Try.prog 7 #[.slice a l.length cap, .agg #[.int .i64 size, .slice sa sl.length scap], .int .i64 n] w fun e w' => e = .returned (.bool true) ∧ Below w.heap.size w w' := by
  have HF := hid (fun W (h : FBox w W a cap l size sa scap sl) => Fits_any a sa cap scap l sl size W (hr.below h.be (Nat.le_refl _)) (hq.below h.be (Nat.le_refl _)))
  obtain ⟨e2, e3⟩ := fit_err he
  rw [e2, e3] at HF
  have hne : (fitE l size sl != 0) = true := by simp [he]
  clear hr hq he e2 e3
  generalize fitE l size sl = E at *
  go_enter Try.func7, Try.ntmps7
  have HB0 := hid (FBox.start w a cap l size sa scap sl)
  have c0 := HB0.out.c0
  have c1 := HB0.out.c1
  have c2 := HB0.out.c2
  go_wp2_with fail
  refine (HF.out _ HB0.out).mono ?_
  rintro e w1 ⟨rfl, b⟩
  have HB1 := hid (HB0.out.step b)
  clear b c0 c1 c2
  have c0 := HB1.out.c0
  have c1 := HB1.out.c1
  have c2 := HB1.out.c2
  go_wp2_with fail
  refine ((fun (_ : FBox w _ a cap l size sa scap sl) => tlives _) HB1.out).mono ?_
  rintro e w2 ⟨rfl, b⟩
  have HB2 := hid (HB1.out.step b)
  clear b c0 c1 c2
  have c0 := HB2.out.c0
  have c1 := HB2.out.c1
  have c2 := HB2.out.c2
  go_wp2_with fail
  refine ((fun (_ : FBox w _ a cap l size sa scap sl) => tlives _) HB2.out).mono ?_
  rintro e w3 ⟨rfl, b⟩
  have HB3 := hid (HB2.out.step b)
  clear b c0 c1 c2
  have c0 := HB3.out.c0
  have c1 := HB3.out.c1
  have c2 := HB3.out.c2
  go_wp2_with fail
  go_ret
  exact ⟨by first | rfl | (simp; done) | (simp; omega), HB3.out.be⟩
set_option maxHeartbeats 1000000 in
theorem fit_yes_out (a sa : Option Addr) (cap scap : Nat) (l : List Tk) (size : Int) (sl : List Sp) (n : Int) (w : World) (hr : Tks w a l) (hq : Sps w sa sl) (he : fitE l size sl = 0) (hf : fitN l size sl = 0) (hB : fitB l size sl = true) (hn : n < 0 ∨ (¬ n < 0 ∧ 549755813888 < n)) :
    Calls Try.prog 7 #[.slice a l.length cap, .agg #[.int .i64 size, .slice sa sl.length scap], .int .i64 n] w fun e w' => e = .returned (.bool true) ∧ Below w.heap.size w w' := by
  have HF := hid (fun W (h : FBox w W a cap l size sa scap sl) => Fits_any a sa cap scap l sl size W (hr.below h.be (Nat.le_refl _)) (hq.below h.be (Nat.le_refl _)))
  rw [he, hf, hB] at HF
  clear hr hq he hf hB
  rcases hn with hn | ⟨hn, hn2⟩
  · go_enter Try.func7, Try.ntmps7
    have HB0 := hid (FBox.start w a cap l size sa scap sl)
    have c0 := HB0.out.c0
    have c1 := HB0.out.c1
    have c2 := HB0.out.c2
    go_wp2_with fail
    refine (HF.out _ HB0.out).mono ?_
    rintro e w1 ⟨rfl, b⟩
    have HB1 := hid (HB0.out.step b)
    clear b c0 c1 c2
    have c0 := HB1.out.c0
    have c1 := HB1.out.c1
    have c2 := HB1.out.c2
    go_wp2_with fail
    refine ((fun (_ : FBox w _ a cap l size sa scap sl) => tlives _) HB1.out).mono ?_
    rintro e w2 ⟨rfl, b⟩
    have HB2 := hid (HB1.out.step b)
    clear b c0 c1 c2
    have c0 := HB2.out.c0
    have c1 := HB2.out.c1
    have c2 := HB2.out.c2
    go_wp2_with fail
    go_ret
    exact ⟨by first | rfl | (simp; done) | (simp; omega), HB2.out.be⟩
  · go_enter Try.func7, Try.ntmps7
    have HB0 := hid (FBox.start w a cap l size sa scap sl)
    have c0 := HB0.out.c0
    have c1 := HB0.out.c1
    have c2 := HB0.out.c2
    go_wp2_with fail
    refine (HF.out _ HB0.out).mono ?_
    rintro e w1 ⟨rfl, b⟩
    have HB1 := hid (HB0.out.step b)
    clear b c0 c1 c2
    have c0 := HB1.out.c0
    have c1 := HB1.out.c1
    have c2 := HB1.out.c2
    go_wp2_with fail
    refine ((fun (_ : FBox w _ a cap l size sa scap sl) => tlives _) HB1.out).mono ?_
    rintro e w2 ⟨rfl, b⟩
    have HB2 := hid (HB1.out.step b)
    clear b c0 c1 c2
    have c0 := HB2.out.c0
    have c1 := HB2.out.c1
    have c2 := HB2.out.c2
    go_wp2_with fail
    go_ret
    exact ⟨by first | rfl | (simp; done) | (simp; omega), HB2.out.be⟩
set_option maxHeartbeats 1000000 in
theorem fit_yes (a sa : Option Addr) (cap scap : Nat) (l : List Tk) (size : Int) (sl : List Sp) (n : Int) (w : World) (hr : Tks w a l) (hq : Sps w sa sl) (he : fitE l size sl = 0) (hf : fitN l size sl = 0) (hB : fitB l size sl = true) (hF : Fit l size sl) (n1 : 0 ≤ n) (n2 : n ≤ 549755813888) :
    Calls Try.prog 7 #[.slice a l.length cap, .agg #[.int .i64 size, .slice sa sl.length scap], .int .i64 n] w fun e w' => e = .returned (.bool true) ∧ Below w.heap.size w w' := by
  have HF := hid (fun W (h : FBox w W a cap l size sa scap sl) => Fits_any a sa cap scap l sl size W (hr.below h.be (Nat.le_refl _)) (hq.below h.be (Nat.le_refl _)))
  obtain ⟨hk, hc, _⟩ := fitE_zero he
  have hv : decide (dem l n ≤ lst size sl n) = true := by have := hF n n1; unfold Bad at this; simp; omega
  have H1 := hid (fun W (h : FBox w W a cap l size sa scap sl) => enough_any a cap l size sa scap sl n w W hr hq h hk hc n1 n2)
  rw [hv] at H1
  rw [he, hf, hB] at HF
  clear hr hq he hf hB hF hk hc hv
  go_enter Try.func7, Try.ntmps7
  have HB0 := hid (FBox.start w a cap l size sa scap sl)
  have c0 := HB0.out.c0
  have c1 := HB0.out.c1
  have c2 := HB0.out.c2
  go_wp2_with fail
  refine (HF.out _ HB0.out).mono ?_
  rintro e w1 ⟨rfl, b⟩
  have HB1 := hid (HB0.out.step b)
  clear b c0 c1 c2
  have c0 := HB1.out.c0
  have c1 := HB1.out.c1
  have c2 := HB1.out.c2
  go_wp2_with fail
  refine ((fun (_ : FBox w _ a cap l size sa scap sl) => tlives _) HB1.out).mono ?_
  rintro e w2 ⟨rfl, b⟩
  have HB2 := hid (HB1.out.step b)
  clear b c0 c1 c2
  have c0 := HB2.out.c0
  have c1 := HB2.out.c1
  have c2 := HB2.out.c2
  go_wp2_with fail
  refine (H1.out _ HB2.out).mono ?_
  rintro e w3 ⟨rfl, b⟩
  have HB3 := hid (HB2.out.step b)
  clear b c0 c1 c2
  have c0 := HB3.out.c0
  have c1 := HB3.out.c1
  have c2 := HB3.out.c2
  go_wp2_with fail
  go_ret
  exact ⟨by first | rfl | (simp; done) | (simp; omega), HB3.out.be⟩
set_option maxHeartbeats 1000000 in
theorem fit_no_out (a sa : Option Addr) (cap scap : Nat) (l : List Tk) (size : Int) (sl : List Sp) (n : Int) (w : World) (hr : Tks w a l) (hq : Sps w sa sl) (he : fitE l size sl = 0) (hB : fitB l size sl = false) (f1 : 1 ≤ fitN l size sl) (f2 : fitN l size sl ≤ 50000) (hb : Bad size sl l (fitN l size sl)) (hn : n < 0 ∨ (¬ n < 0 ∧ 549755813888 < n)) :
    Calls Try.prog 7 #[.slice a l.length cap, .agg #[.int .i64 size, .slice sa sl.length scap], .int .i64 n] w fun e w' => e = .returned (.bool true) ∧ Below w.heap.size w w' := by
  have HF := hid (fun W (h : FBox w W a cap l size sa scap sl) => Fits_any a sa cap scap l sl size W (hr.below h.be (Nat.le_refl _)) (hq.below h.be (Nat.le_refl _)))
  obtain ⟨hk, hc, _⟩ := fitE_zero he
  have hv : decide (dem l (fitN l size sl) ≤ lst size sl (fitN l size sl)) = false := by unfold Bad at hb; simp; omega
  have H1 := hid (fun W (h : FBox w W a cap l size sa scap sl) => enough_any a cap l size sa scap sl (fitN l size sl) w W hr hq h hk hc (by omega) (by omega))
  rw [hv] at H1
  rw [he, hB] at HF
  clear hr hq he hB hb hk hc hv
  generalize fitN l size sl = X at *
  rcases hn with hn | ⟨hn, hn2⟩
  · go_enter Try.func7, Try.ntmps7
    have HB0 := hid (FBox.start w a cap l size sa scap sl)
    have c0 := HB0.out.c0
    have c1 := HB0.out.c1
    have c2 := HB0.out.c2
    go_wp2_with fail
    refine (HF.out _ HB0.out).mono ?_
    rintro e w1 ⟨rfl, b⟩
    have HB1 := hid (HB0.out.step b)
    clear b c0 c1 c2
    have c0 := HB1.out.c0
    have c1 := HB1.out.c1
    have c2 := HB1.out.c2
    go_wp2_with fail
    refine ((fun (_ : FBox w _ a cap l size sa scap sl) => tlives _) HB1.out).mono ?_
    rintro e w2 ⟨rfl, b⟩
    have HB2 := hid (HB1.out.step b)
    clear b c0 c1 c2
    have c0 := HB2.out.c0
    have c1 := HB2.out.c1
    have c2 := HB2.out.c2
    go_wp2_with fail
    refine (H1.out _ HB2.out).mono ?_
    rintro e w3 ⟨rfl, b⟩
    have HB3 := hid (HB2.out.step b)
    clear b c0 c1 c2
    have c0 := HB3.out.c0
    have c1 := HB3.out.c1
    have c2 := HB3.out.c2
    go_wp2_with fail
    go_ret
    exact ⟨by first | rfl | (simp; done) | (simp; omega), HB3.out.be⟩
  · go_enter Try.func7, Try.ntmps7
    have HB0 := hid (FBox.start w a cap l size sa scap sl)
    have c0 := HB0.out.c0
    have c1 := HB0.out.c1
    have c2 := HB0.out.c2
    go_wp2_with fail
    refine (HF.out _ HB0.out).mono ?_
    rintro e w1 ⟨rfl, b⟩
    have HB1 := hid (HB0.out.step b)
    clear b c0 c1 c2
    have c0 := HB1.out.c0
    have c1 := HB1.out.c1
    have c2 := HB1.out.c2
    go_wp2_with fail
    refine ((fun (_ : FBox w _ a cap l size sa scap sl) => tlives _) HB1.out).mono ?_
    rintro e w2 ⟨rfl, b⟩
    have HB2 := hid (HB1.out.step b)
    clear b c0 c1 c2
    have c0 := HB2.out.c0
    have c1 := HB2.out.c1
    have c2 := HB2.out.c2
    go_wp2_with fail
    refine (H1.out _ HB2.out).mono ?_
    rintro e w3 ⟨rfl, b⟩
    have HB3 := hid (HB2.out.step b)
    clear b c0 c1 c2
    have c0 := HB3.out.c0
    have c1 := HB3.out.c1
    have c2 := HB3.out.c2
    go_wp2_with fail
    go_ret
    exact ⟨by first | rfl | (simp; done) | (simp; omega), HB3.out.be⟩
set_option maxHeartbeats 1000000 in
theorem fit_no_above (a sa : Option Addr) (cap scap : Nat) (l : List Tk) (size : Int) (sl : List Sp) (n : Int) (w : World) (hr : Tks w a l) (hq : Sps w sa sl) (he : fitE l size sl = 0) (hB : fitB l size sl = false) (f1 : 1 ≤ fitN l size sl) (f2 : fitN l size sl ≤ 50000) (hb : Bad size sl l (fitN l size sl)) (n1 : fitN l size sl ≤ n) (n2 : n ≤ 549755813888) :
    Calls Try.prog 7 #[.slice a l.length cap, .agg #[.int .i64 size, .slice sa sl.length scap], .int .i64 n] w fun e w' => e = .returned (.bool true) ∧ Below w.heap.size w w' := by
  have HF := hid (fun W (h : FBox w W a cap l size sa scap sl) => Fits_any a sa cap scap l sl size W (hr.below h.be (Nat.le_refl _)) (hq.below h.be (Nat.le_refl _)))
  obtain ⟨hk, hc, _⟩ := fitE_zero he
  have hv : decide (dem l (fitN l size sl) ≤ lst size sl (fitN l size sl)) = false := by unfold Bad at hb; simp; omega
  have H1 := hid (fun W (h : FBox w W a cap l size sa scap sl) => enough_any a cap l size sa scap sl (fitN l size sl) w W hr hq h hk hc (by omega) (by omega))
  rw [hv] at H1
  rw [he, hB] at HF
  clear hr hq he hB hb hk hc hv
  generalize fitN l size sl = X at *
  go_enter Try.func7, Try.ntmps7
  have HB0 := hid (FBox.start w a cap l size sa scap sl)
  have c0 := HB0.out.c0
  have c1 := HB0.out.c1
  have c2 := HB0.out.c2
  go_wp2_with fail
  refine (HF.out _ HB0.out).mono ?_
  rintro e w1 ⟨rfl, b⟩
  have HB1 := hid (HB0.out.step b)
  clear b c0 c1 c2
  have c0 := HB1.out.c0
  have c1 := HB1.out.c1
  have c2 := HB1.out.c2
  go_wp2_with fail
  refine ((fun (_ : FBox w _ a cap l size sa scap sl) => tlives _) HB1.out).mono ?_
  rintro e w2 ⟨rfl, b⟩
  have HB2 := hid (HB1.out.step b)
  clear b c0 c1 c2
  have c0 := HB2.out.c0
  have c1 := HB2.out.c1
  have c2 := HB2.out.c2
  go_wp2_with fail
  refine (H1.out _ HB2.out).mono ?_
  rintro e w3 ⟨rfl, b⟩
  have HB3 := hid (HB2.out.step b)
  clear b c0 c1 c2
  have c0 := HB3.out.c0
  have c1 := HB3.out.c1
  have c2 := HB3.out.c2
  go_wp2_with fail
  go_ret
  exact ⟨by first | rfl | (simp; done) | (simp; omega), HB3.out.be⟩
set_option maxHeartbeats 1000000 in
theorem fit_no_below (a sa : Option Addr) (cap scap : Nat) (l : List Tk) (size : Int) (sl : List Sp) (n : Int) (w : World) (hr : Tks w a l) (hq : Sps w sa sl) (he : fitE l size sl = 0) (hB : fitB l size sl = false) (f1 : 1 ≤ fitN l size sl) (f2 : fitN l size sl ≤ 50000) (hb : Bad size sl l (fitN l size sl)) (n0 : 0 ≤ n) (n1 : n < fitN l size sl) (hF : ¬ Bad size sl l n) :
    Calls Try.prog 7 #[.slice a l.length cap, .agg #[.int .i64 size, .slice sa sl.length scap], .int .i64 n] w fun e w' => e = .returned (.bool true) ∧ Below w.heap.size w w' := by
  have HF := hid (fun W (h : FBox w W a cap l size sa scap sl) => Fits_any a sa cap scap l sl size W (hr.below h.be (Nat.le_refl _)) (hq.below h.be (Nat.le_refl _)))
  obtain ⟨hk, hc, _⟩ := fitE_zero he
  have hv : decide (dem l (fitN l size sl) ≤ lst size sl (fitN l size sl)) = false := by unfold Bad at hb; simp; omega
  have H1 := hid (fun W (h : FBox w W a cap l size sa scap sl) => enough_any a cap l size sa scap sl (fitN l size sl) w W hr hq h hk hc (by omega) (by omega))
  rw [hv] at H1
  have hv2 : decide (dem l n ≤ lst size sl n) = true := by unfold Bad at hF; simp; omega
  have H2 := hid (fun W (h : FBox w W a cap l size sa scap sl) => enough_any a cap l size sa scap sl n w W hr hq h hk hc n0 (by omega))
  rw [hv2] at H2
  rw [he, hB] at HF
  clear hr hq he hB hb hk hc hv hv2 hF
  generalize fitN l size sl = X at *
  go_enter Try.func7, Try.ntmps7
  have HB0 := hid (FBox.start w a cap l size sa scap sl)
  have c0 := HB0.out.c0
  have c1 := HB0.out.c1
  have c2 := HB0.out.c2
  go_wp2_with fail
  refine (HF.out _ HB0.out).mono ?_
  rintro e w1 ⟨rfl, b⟩
  have HB1 := hid (HB0.out.step b)
  clear b c0 c1 c2
  have c0 := HB1.out.c0
  have c1 := HB1.out.c1
  have c2 := HB1.out.c2
  go_wp2_with fail
  refine ((fun (_ : FBox w _ a cap l size sa scap sl) => tlives _) HB1.out).mono ?_
  rintro e w2 ⟨rfl, b⟩
  have HB2 := hid (HB1.out.step b)
  clear b c0 c1 c2
  have c0 := HB2.out.c0
  have c1 := HB2.out.c1
  have c2 := HB2.out.c2
  go_wp2_with fail
  refine (H1.out _ HB2.out).mono ?_
  rintro e w3 ⟨rfl, b⟩
  have HB3 := hid (HB2.out.step b)
  clear b c0 c1 c2
  have c0 := HB3.out.c0
  have c1 := HB3.out.c1
  have c2 := HB3.out.c2
  go_wp2_with fail
  refine (H2.out _ HB3.out).mono ?_
  rintro e w4 ⟨rfl, b⟩
  have HB4 := hid (HB3.out.step b)
  clear b c0 c1 c2
  have c0 := HB4.out.c0
  have c1 := HB4.out.c1
  have c2 := HB4.out.c2
  go_wp2_with fail
  go_ret
  exact ⟨by first | rfl | (simp; done) | (simp; omega), HB4.out.be⟩
theorem taskFit_walk (a : Option Addr) (len cap : Nat) (l : List Tk) (size : Int) (sa : Option Addr) (slen scap : Nat) (sl : List Sp) (n : Int) (w : World) (h : IsTks w a len cap l) (hs : wf64 size) (k : IsSps w sa slen scap sl) (hn : wf64 n) :
    Calls Try.prog 7 #[.slice a len cap, .agg #[.int .i64 size, .slice sa slen scap], .int .i64 n] w fun e w' => e = .returned (.bool true) ∧ Below w.heap.size w w' := by
  obtain ⟨rfl, h1, h2, hr, _, _⟩ := h
  obtain ⟨rfl, k1, k2, hq, _, _⟩ := k
  by_cases he : fitE l size sl = 0
  · rcases fit_cases he with ⟨f, g, hF⟩ | ⟨f1, f2, g, hb, hF⟩
    · by_cases n1 : 0 ≤ n
      · by_cases n2 : n ≤ 549755813888
        · exact fit_yes a sa cap scap l size sl n w hr hq he f g hF n1 n2
        · exact fit_yes_out a sa cap scap l size sl n w hr hq he f g (.inr ⟨by omega, by omega⟩)
      · exact fit_yes_out a sa cap scap l size sl n w hr hq he f g (.inl (by omega))
    · by_cases n1 : 0 ≤ n
      · by_cases n2 : n ≤ 549755813888
        · by_cases n3 : n < fitN l size sl
          · exact fit_no_below a sa cap scap l size sl n w hr hq he g f1 f2 hb n1 n3 (hF n n1 n3)
          · exact fit_no_above a sa cap scap l size sl n w hr hq he g f1 f2 hb (by omega) n2
        · exact fit_no_out a sa cap scap l size sl n w hr hq he g f1 f2 hb (.inr ⟨by omega, by omega⟩)
      · exact fit_no_out a sa cap scap l size sl n w hr hq he g f1 f2 hb (.inl (by omega))
  · exact fit_e a sa cap scap l size sl n w hr hq he
end TaskC
end Go.Proofs.Ytpeapmefnabhfaa
