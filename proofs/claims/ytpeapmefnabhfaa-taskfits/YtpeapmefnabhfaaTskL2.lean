/- The walk of TaskFits. -/
import Derived.Test.YtpeapmefnabhfaaTskM
import Derived.Test.YtpeapmefnabhfaaTskH
set_option linter.unusedVariables false
namespace Go.Proofs.Ytpeapmefnabhfaa
open Go.RowKit hiding tok
open SpanM SupM SpanC TaskM
open RowsO hiding Tk
namespace TaskC
theorem boxa {w a b : World} {o p : Obj} (h : Below (w.heap.size + 1) (w.alloc o) a) (k : Below (a.alloc p).heap.size (a.alloc p) b) : Below (w.heap.size + 1) (w.alloc o) b :=
  (h.alloc (by have := h.size; simpa using this) p).trans (k.mono (by have := h.size; simp at this ⊢; omega))
theorem lcmOf_pair (R size : Int) (g : Nat) (W : World) (h0 : W.cell? ⟨g, 0, none⟩ = some (.int .i64 R)) (h1 : W.cell? ⟨g, 1, none⟩ = some (.int .i64 size)) (hR : NumM.Ok1 R) (hs : NumM.Ok1 size) :
    Calls Try.prog 20 #[.slice (some ⟨g, 0, none⟩) 2 2] W fun e w' => e = .returned (.int .i64 (NumC.lcmVal (NumM.lcmFrom 1 [R, size]))) ∧ Below W.heap.size W w' := by
  have := NumC.lcmOf_any (some ⟨g, 0, none⟩) 2 [R, size] W (.inr ⟨g, 0, rfl, fun i hi => by
    match i, hi with
    | 0, _ => simpa using h0
    | 1, _ => simpa using h1⟩) (by simp) (fun i hi => by
    match i, hi with
    | 0, _ => simpa using hR
    | 1, _ => simpa using hs)
  simp only [List.length_cons, List.length_nil, Nat.zero_add] at this
  exact this.mono fun e w' ⟨h1, h2⟩ => ⟨h1, by rw [h2]; exact Below.refl _ _⟩
theorem pair_val {l : List Tk} {size : Int} (h : 1 ≤ rnd l) (h2 : rnd l ≤ 1099511627776) (hs : 1 ≤ size) (hs2 : size ≤ 1000000) :
    NumC.lcmVal (NumM.lcmFrom 1 [rnd l, size]) = if both l size ≤ 1099511627776 then both l size else 0 := by
  have ok : ∀ x ∈ [rnd l, size], NumM.Ok1 x := by
    intro x hx
    simp at hx
    rcases hx with rfl | rfl
    · exact ⟨h, h2⟩
    · exact ⟨hs, by omega⟩
  rw [NumM.lcmFrom_eq _ 1 (by omega) (by omega) ok]
  unfold both
  split <;> simp [NumC.lcmVal]
set_option maxHeartbeats 1000000 in
theorem fits_e1 (a sa : Option Addr) (cap scap : Nat) (l : List Tk) (size : Int) (sl : List Sp) (w : World) (hr : Tks w a l) (hq : Sps w sa sl) (hk : tchk l ≠ 0) :
    Calls Try.prog 4 #[.slice a l.length cap, .agg #[.int .i64 size, .slice sa sl.length scap]] w fun e w' => e = .returned (.bool true) ∧ Below w.heap.size w w' := by
  have HF := hid (fun W (h : Below w.heap.size w W) => Fits_any a sa cap scap l sl size W (hr.below h (Nat.le_refl _)) (hq.below h (Nat.le_refl _)))
  have H1 := hid (fun W (h : Below w.heap.size w W) => tright_any a cap l W (hr.below h (Nat.le_refl _)))
  have e1 : fitE l size sl = tchk l := by unfold fitE; rw [if_neg hk]
  obtain ⟨e2, e3⟩ := fit_err (l := l) (size := size) (sl := sl) (by rw [e1]; exact hk)
  rw [e1, e2, e3] at HF
  have hne : (tchk l == 0) = false := by simp [hk]
  have hne2 : (tchk l != 0) = true := by simp [hk]
  clear hr hq hk e1 e2 e3
  generalize tchk l = c at *
  go_enter Try.func4, Try.ntmps4
  go_wp2_with fail
  refine (HF.out _ (by go_grown)).mono ?_
  rintro e w1 ⟨rfl, b⟩
  have HB1 : Hid (Below (w.heap.size + 1) (w.alloc (.cells #[.int .i64 size, .slice sa sl.length scap] 38)) w1) := box1 b
  clear b
  have c1 : w1.cell? ⟨w.heap.size, 0, none⟩ = some (.int .i64 size) := boxc HB1.out 0
  have c2 : w1.cell? ⟨w.heap.size, 1, none⟩ = some (.slice sa sl.length scap) := boxc HB1.out 1
  go_wp2_with fail
  refine (H1.out _ (of_alloc HB1.out)).mono ?_
  rintro e w2 ⟨rfl, b⟩
  have HB2 : Hid (Below (w.heap.size + 1) (w.alloc (.cells #[.int .i64 size, .slice sa sl.length scap] 38)) w2) := box2 HB1.out b
  clear b c1 c2
  have c1 : w2.cell? ⟨w.heap.size, 0, none⟩ = some (.int .i64 size) := boxc HB2.out 0
  have c2 : w2.cell? ⟨w.heap.size, 1, none⟩ = some (.slice sa sl.length scap) := boxc HB2.out 1
  go_wp2_with fail
  go_ret
  exact ⟨by first | rfl | simp, (of_alloc HB2.out)⟩
set_option maxHeartbeats 1000000 in
theorem fits_e2 (a sa : Option Addr) (cap scap : Nat) (l : List Tk) (size : Int) (sl : List Sp) (w : World) (hr : Tks w a l) (hq : Sps w sa sl) (hk : tchk l = 0) (hc : chk size sl ≠ 0) :
    Calls Try.prog 4 #[.slice a l.length cap, .agg #[.int .i64 size, .slice sa sl.length scap]] w fun e w' => e = .returned (.bool true) ∧ Below w.heap.size w w' := by
  have HF := hid (fun W (h : Below w.heap.size w W) => Fits_any a sa cap scap l sl size W (hr.below h (Nat.le_refl _)) (hq.below h (Nat.le_refl _)))
  have H1 := hid (fun W (h : Below w.heap.size w W) => tright_any a cap l W (hr.below h (Nat.le_refl _)))
  have H2 := hid (fun W (h : Below w.heap.size w W) => right_any size sa scap sl W (hq.below h (Nat.le_refl _)))
  have e1 : fitE l size sl = chk size sl := by unfold fitE; rw [if_pos hk, if_neg hc]
  obtain ⟨e2, e3⟩ := fit_err (l := l) (size := size) (sl := sl) (by rw [e1]; exact hc)
  rw [e1, e2, e3] at HF
  rw [hk] at H1
  have hne : (chk size sl == 0) = false := by simp [hc]
  have hne2 : (chk size sl != 0) = true := by simp [hc]
  clear hr hq hk hc e1 e2 e3
  generalize chk size sl = c at *
  go_enter Try.func4, Try.ntmps4
  go_wp2_with fail
  refine (HF.out _ (by go_grown)).mono ?_
  rintro e w1 ⟨rfl, b⟩
  have HB1 : Hid (Below (w.heap.size + 1) (w.alloc (.cells #[.int .i64 size, .slice sa sl.length scap] 38)) w1) := box1 b
  clear b
  have c1 : w1.cell? ⟨w.heap.size, 0, none⟩ = some (.int .i64 size) := boxc HB1.out 0
  have c2 : w1.cell? ⟨w.heap.size, 1, none⟩ = some (.slice sa sl.length scap) := boxc HB1.out 1
  go_wp2_with fail
  refine (H1.out _ (of_alloc HB1.out)).mono ?_
  rintro e w2 ⟨rfl, b⟩
  have HB2 : Hid (Below (w.heap.size + 1) (w.alloc (.cells #[.int .i64 size, .slice sa sl.length scap] 38)) w2) := box2 HB1.out b
  clear b c1 c2
  have c1 : w2.cell? ⟨w.heap.size, 0, none⟩ = some (.int .i64 size) := boxc HB2.out 0
  have c2 : w2.cell? ⟨w.heap.size, 1, none⟩ = some (.slice sa sl.length scap) := boxc HB2.out 1
  go_wp2_with fail
  refine (H2.out _ (of_alloc HB2.out)).mono ?_
  rintro e w3 ⟨rfl, b⟩
  have HB3 : Hid (Below (w.heap.size + 1) (w.alloc (.cells #[.int .i64 size, .slice sa sl.length scap] 38)) w3) := box2 HB2.out b
  clear b c1 c2
  have c1 : w3.cell? ⟨w.heap.size, 0, none⟩ = some (.int .i64 size) := boxc HB3.out 0
  have c2 : w3.cell? ⟨w.heap.size, 1, none⟩ = some (.slice sa sl.length scap) := boxc HB3.out 1
  go_wp2_with fail
  go_ret
  exact ⟨by first | rfl | simp, (of_alloc HB3.out)⟩
set_option maxHeartbeats 1000000 in
theorem fits_e3 (a sa : Option Addr) (cap scap : Nat) (l : List Tk) (size : Int) (sl : List Sp) (w : World) (hr : Tks w a l) (hq : Sps w sa sl) (hk : tchk l = 0) (hc : chk size sl = 0) (he : rndE l ≠ 0) :
    Calls Try.prog 4 #[.slice a l.length cap, .agg #[.int .i64 size, .slice sa sl.length scap]] w fun e w' => e = .returned (.bool true) ∧ Below w.heap.size w w' := by
  have HF := hid (fun W (h : Below w.heap.size w W) => Fits_any a sa cap scap l sl size W (hr.below h (Nat.le_refl _)) (hq.below h (Nat.le_refl _)))
  have H1 := hid (fun W (h : Below w.heap.size w W) => tright_any a cap l W (hr.below h (Nat.le_refl _)))
  have H2 := hid (fun W (h : Below w.heap.size w W) => right_any size sa scap sl W (hq.below h (Nat.le_refl _)))
  obtain ⟨hl, hg⟩ := tchk_zero hk
  obtain ⟨s1, s2, s3, s4⟩ := chk_zero hc
  have H3 := hid (fun W (h : Below w.heap.size w W) => rround_any a cap l W (hr.below h (Nat.le_refl _)) hl hg)
  rw [hk] at H1
  rw [hc] at H2
  have ht : tooLong l size := .inl he
  have e1 : fitE l size sl = 6 := by unfold fitE; rw [if_pos hk, if_pos hc, if_pos ht]
  obtain ⟨e2, e3⟩ := fit_err (l := l) (size := size) (sl := sl) (by omega)
  rw [e1, e2, e3] at HF
  clear e1 e2 e3 ht
  have r : rnd l = 0 := by
    rcases rnd_cases hg with ⟨e, _⟩ | ⟨_, r, _⟩
    · exact absurd e he
    · exact r
  rw [r] at H3
  clear hr hq hk hc hg he r s4
  go_enter Try.func4, Try.ntmps4
  go_wp2_with fail
  refine (HF.out _ (by go_grown)).mono ?_
  rintro e w1 ⟨rfl, b⟩
  have HB1 : Hid (Below (w.heap.size + 1) (w.alloc (.cells #[.int .i64 size, .slice sa sl.length scap] 38)) w1) := box1 b
  clear b
  have c1 : w1.cell? ⟨w.heap.size, 0, none⟩ = some (.int .i64 size) := boxc HB1.out 0
  have c2 : w1.cell? ⟨w.heap.size, 1, none⟩ = some (.slice sa sl.length scap) := boxc HB1.out 1
  go_wp2_with fail
  refine (H1.out _ (of_alloc HB1.out)).mono ?_
  rintro e w2 ⟨rfl, b⟩
  have HB2 : Hid (Below (w.heap.size + 1) (w.alloc (.cells #[.int .i64 size, .slice sa sl.length scap] 38)) w2) := box2 HB1.out b
  clear b c1 c2
  have c1 : w2.cell? ⟨w.heap.size, 0, none⟩ = some (.int .i64 size) := boxc HB2.out 0
  have c2 : w2.cell? ⟨w.heap.size, 1, none⟩ = some (.slice sa sl.length scap) := boxc HB2.out 1
  go_wp2_with fail
  refine (H2.out _ (of_alloc HB2.out)).mono ?_
  rintro e w3 ⟨rfl, b⟩
  have HB3 : Hid (Below (w.heap.size + 1) (w.alloc (.cells #[.int .i64 size, .slice sa sl.length scap] 38)) w3) := box2 HB2.out b
  clear b c1 c2
  have c1 : w3.cell? ⟨w.heap.size, 0, none⟩ = some (.int .i64 size) := boxc HB3.out 0
  have c2 : w3.cell? ⟨w.heap.size, 1, none⟩ = some (.slice sa sl.length scap) := boxc HB3.out 1
  go_wp2_with fail
  refine (H3.out _ (of_alloc HB3.out)).mono ?_
  rintro e w4 ⟨rfl, b⟩
  have HB4 : Hid (Below (w.heap.size + 1) (w.alloc (.cells #[.int .i64 size, .slice sa sl.length scap] 38)) w4) := box2 HB3.out b
  clear b c1 c2
  have c1 : w4.cell? ⟨w.heap.size, 0, none⟩ = some (.int .i64 size) := boxc HB4.out 0
  have c2 : w4.cell? ⟨w.heap.size, 1, none⟩ = some (.slice sa sl.length scap) := boxc HB4.out 1
  go_wp2_with fail
  go_ret
  exact ⟨by first | rfl | simp, (of_alloc HB4.out)⟩
set_option maxHeartbeats 1000000 in
theorem fits_e4 (a sa : Option Addr) (cap scap : Nat) (l : List Tk) (size : Int) (sl : List Sp) (w : World) (hr : Tks w a l) (hq : Sps w sa sl) (hk : tchk l = 0) (hc : chk size sl = 0) (he : rndE l = 0) (hb : 1099511627776 < both l size) :
    Calls Try.prog 4 #[.slice a l.length cap, .agg #[.int .i64 size, .slice sa sl.length scap]] w fun e w' => e = .returned (.bool true) ∧ Below w.heap.size w w' := by
  have HF := hid (fun W (h : Below w.heap.size w W) => Fits_any a sa cap scap l sl size W (hr.below h (Nat.le_refl _)) (hq.below h (Nat.le_refl _)))
  have H1 := hid (fun W (h : Below w.heap.size w W) => tright_any a cap l W (hr.below h (Nat.le_refl _)))
  have H2 := hid (fun W (h : Below w.heap.size w W) => right_any size sa scap sl W (hq.below h (Nat.le_refl _)))
  obtain ⟨hl, hg⟩ := tchk_zero hk
  obtain ⟨s1, s2, s3, s4⟩ := chk_zero hc
  have H3 := hid (fun W (h : Below w.heap.size w W) => rround_any a cap l W (hr.below h (Nat.le_refl _)) hl hg)
  rw [hk] at H1
  rw [hc] at H2
  have ht : tooLong l size := .inr (by omega)
  have e1 : fitE l size sl = 6 := by unfold fitE; rw [if_pos hk, if_pos hc, if_pos ht]
  obtain ⟨e2, e3⟩ := fit_err (l := l) (size := size) (sl := sl) (by omega)
  rw [e1, e2, e3] at HF
  clear e1 e2 e3 ht
  obtain ⟨r1, r2⟩ : 1 ≤ rnd l ∧ rnd l ≤ 1099511627776 := by
    rcases rnd_cases hg with ⟨_, _, r⟩ | ⟨e, _⟩
    · exact r
    · omega
  have H4 := hid (fun W (h : Below w.heap.size w W) => lcmOf_pair (rnd l) size W.heap.size (W.alloc (.cells #[.int .i64 (rnd l), .int .i64 size] 3)) (World.cell?_alloc_at _ _ _ _ rfl) (World.cell?_alloc_at _ _ _ _ rfl) ⟨r1, r2⟩ ⟨s1, by omega⟩)
  rw [pair_val r1 r2 s1 s2] at H4
  clear hr hq hk hc hg he s4
  generalize rnd l = R at *
  rw [if_neg (by omega)] at H4
  go_enter Try.func4, Try.ntmps4
  go_wp2_with fail
  refine (HF.out _ (by go_grown)).mono ?_
  rintro e w1 ⟨rfl, b⟩
  have HB1 : Hid (Below (w.heap.size + 1) (w.alloc (.cells #[.int .i64 size, .slice sa sl.length scap] 38)) w1) := box1 b
  clear b
  have c1 : w1.cell? ⟨w.heap.size, 0, none⟩ = some (.int .i64 size) := boxc HB1.out 0
  have c2 : w1.cell? ⟨w.heap.size, 1, none⟩ = some (.slice sa sl.length scap) := boxc HB1.out 1
  go_wp2_with fail
  refine (H1.out _ (of_alloc HB1.out)).mono ?_
  rintro e w2 ⟨rfl, b⟩
  have HB2 : Hid (Below (w.heap.size + 1) (w.alloc (.cells #[.int .i64 size, .slice sa sl.length scap] 38)) w2) := box2 HB1.out b
  clear b c1 c2
  have c1 : w2.cell? ⟨w.heap.size, 0, none⟩ = some (.int .i64 size) := boxc HB2.out 0
  have c2 : w2.cell? ⟨w.heap.size, 1, none⟩ = some (.slice sa sl.length scap) := boxc HB2.out 1
  go_wp2_with fail
  refine (H2.out _ (of_alloc HB2.out)).mono ?_
  rintro e w3 ⟨rfl, b⟩
  have HB3 : Hid (Below (w.heap.size + 1) (w.alloc (.cells #[.int .i64 size, .slice sa sl.length scap] 38)) w3) := box2 HB2.out b
  clear b c1 c2
  have c1 : w3.cell? ⟨w.heap.size, 0, none⟩ = some (.int .i64 size) := boxc HB3.out 0
  have c2 : w3.cell? ⟨w.heap.size, 1, none⟩ = some (.slice sa sl.length scap) := boxc HB3.out 1
  go_wp2_with fail
  refine (H3.out _ (of_alloc HB3.out)).mono ?_
  rintro e w4 ⟨rfl, b⟩
  have HB4 : Hid (Below (w.heap.size + 1) (w.alloc (.cells #[.int .i64 size, .slice sa sl.length scap] 38)) w4) := box2 HB3.out b
  clear b c1 c2
  have c1 : w4.cell? ⟨w.heap.size, 0, none⟩ = some (.int .i64 size) := boxc HB4.out 0
  have c2 : w4.cell? ⟨w.heap.size, 1, none⟩ = some (.slice sa sl.length scap) := boxc HB4.out 1
  go_wp2_with fail
  refine (H4.out _ (of_alloc HB4.out)).mono ?_
  rintro e w5 ⟨rfl, b⟩
  have HB5 : Hid (Below (w.heap.size + 1) (w.alloc (.cells #[.int .i64 size, .slice sa sl.length scap] 38)) w5) := boxa HB4.out b
  clear b c1 c2
  have c1 : w5.cell? ⟨w.heap.size, 0, none⟩ = some (.int .i64 size) := boxc HB5.out 0
  have c2 : w5.cell? ⟨w.heap.size, 1, none⟩ = some (.slice sa sl.length scap) := boxc HB5.out 1
  go_wp2_with fail
  go_ret
  exact ⟨by first | rfl | simp, (of_alloc HB5.out)⟩
set_option maxHeartbeats 1000000 in
theorem fits_e5 (a sa : Option Addr) (cap scap : Nat) (l : List Tk) (size : Int) (sl : List Sp) (w : World) (hr : Tks w a l) (hq : Sps w sa sl) (hk : tchk l = 0) (hc : chk size sl = 0) (he : rndE l = 0) (hb : 50000 < both l size) (hb2 : both l size ≤ 1099511627776) :
    Calls Try.prog 4 #[.slice a l.length cap, .agg #[.int .i64 size, .slice sa sl.length scap]] w fun e w' => e = .returned (.bool true) ∧ Below w.heap.size w w' := by
  have HF := hid (fun W (h : Below w.heap.size w W) => Fits_any a sa cap scap l sl size W (hr.below h (Nat.le_refl _)) (hq.below h (Nat.le_refl _)))
  have H1 := hid (fun W (h : Below w.heap.size w W) => tright_any a cap l W (hr.below h (Nat.le_refl _)))
  have H2 := hid (fun W (h : Below w.heap.size w W) => right_any size sa scap sl W (hq.below h (Nat.le_refl _)))
  obtain ⟨hl, hg⟩ := tchk_zero hk
  obtain ⟨s1, s2, s3, s4⟩ := chk_zero hc
  have H3 := hid (fun W (h : Below w.heap.size w W) => rround_any a cap l W (hr.below h (Nat.le_refl _)) hl hg)
  rw [hk] at H1
  rw [hc] at H2
  have ht : tooLong l size := .inr (by omega)
  have e1 : fitE l size sl = 6 := by unfold fitE; rw [if_pos hk, if_pos hc, if_pos ht]
  obtain ⟨e2, e3⟩ := fit_err (l := l) (size := size) (sl := sl) (by omega)
  rw [e1, e2, e3] at HF
  clear e1 e2 e3 ht
  obtain ⟨r1, r2⟩ : 1 ≤ rnd l ∧ rnd l ≤ 1099511627776 := by
    rcases rnd_cases hg with ⟨_, _, r⟩ | ⟨e, _⟩
    · exact r
    · omega
  have H4 := hid (fun W (h : Below w.heap.size w W) => lcmOf_pair (rnd l) size W.heap.size (W.alloc (.cells #[.int .i64 (rnd l), .int .i64 size] 3)) (World.cell?_alloc_at _ _ _ _ rfl) (World.cell?_alloc_at _ _ _ _ rfl) ⟨r1, r2⟩ ⟨s1, by omega⟩)
  rw [pair_val r1 r2 s1 s2] at H4
  clear hr hq hk hc hg he s4
  generalize rnd l = R at *
  rw [if_pos hb2] at H4
  have hne : (both l size == 0) = false := by simp; omega
  generalize both l size = V at *
  go_enter Try.func4, Try.ntmps4
  go_wp2_with fail
  refine (HF.out _ (by go_grown)).mono ?_
  rintro e w1 ⟨rfl, b⟩
  have HB1 : Hid (Below (w.heap.size + 1) (w.alloc (.cells #[.int .i64 size, .slice sa sl.length scap] 38)) w1) := box1 b
  clear b
  have c1 : w1.cell? ⟨w.heap.size, 0, none⟩ = some (.int .i64 size) := boxc HB1.out 0
  have c2 : w1.cell? ⟨w.heap.size, 1, none⟩ = some (.slice sa sl.length scap) := boxc HB1.out 1
  go_wp2_with fail
  refine (H1.out _ (of_alloc HB1.out)).mono ?_
  rintro e w2 ⟨rfl, b⟩
  have HB2 : Hid (Below (w.heap.size + 1) (w.alloc (.cells #[.int .i64 size, .slice sa sl.length scap] 38)) w2) := box2 HB1.out b
  clear b c1 c2
  have c1 : w2.cell? ⟨w.heap.size, 0, none⟩ = some (.int .i64 size) := boxc HB2.out 0
  have c2 : w2.cell? ⟨w.heap.size, 1, none⟩ = some (.slice sa sl.length scap) := boxc HB2.out 1
  go_wp2_with fail
  refine (H2.out _ (of_alloc HB2.out)).mono ?_
  rintro e w3 ⟨rfl, b⟩
  have HB3 : Hid (Below (w.heap.size + 1) (w.alloc (.cells #[.int .i64 size, .slice sa sl.length scap] 38)) w3) := box2 HB2.out b
  clear b c1 c2
  have c1 : w3.cell? ⟨w.heap.size, 0, none⟩ = some (.int .i64 size) := boxc HB3.out 0
  have c2 : w3.cell? ⟨w.heap.size, 1, none⟩ = some (.slice sa sl.length scap) := boxc HB3.out 1
  go_wp2_with fail
  refine (H3.out _ (of_alloc HB3.out)).mono ?_
  rintro e w4 ⟨rfl, b⟩
  have HB4 : Hid (Below (w.heap.size + 1) (w.alloc (.cells #[.int .i64 size, .slice sa sl.length scap] 38)) w4) := box2 HB3.out b
  clear b c1 c2
  have c1 : w4.cell? ⟨w.heap.size, 0, none⟩ = some (.int .i64 size) := boxc HB4.out 0
  have c2 : w4.cell? ⟨w.heap.size, 1, none⟩ = some (.slice sa sl.length scap) := boxc HB4.out 1
  go_wp2_with fail
  refine (H4.out _ (of_alloc HB4.out)).mono ?_
  rintro e w5 ⟨rfl, b⟩
  have HB5 : Hid (Below (w.heap.size + 1) (w.alloc (.cells #[.int .i64 size, .slice sa sl.length scap] 38)) w5) := boxa HB4.out b
  clear b c1 c2
  have c1 : w5.cell? ⟨w.heap.size, 0, none⟩ = some (.int .i64 size) := boxc HB5.out 0
  have c2 : w5.cell? ⟨w.heap.size, 1, none⟩ = some (.slice sa sl.length scap) := boxc HB5.out 1
  go_wp2_with fail
  go_ret
  exact ⟨by first | rfl | simp, (of_alloc HB5.out)⟩
set_option maxRecDepth 20000 in
set_option maxHeartbeats 1000000 in
theorem fits_yes (a sa : Option Addr) (cap scap : Nat) (l : List Tk) (size : Int) (sl : List Sp) (w : World) (hr : Tks w a l) (hq : Sps w sa sl) (hk : tchk l = 0) (hc : chk size sl = 0) (he : rndE l = 0) (hb : both l size ≤ 50000) (hf : fitN l size sl = 0) (hB : fitB l size sl = true) :
    Calls Try.prog 4 #[.slice a l.length cap, .agg #[.int .i64 size, .slice sa sl.length scap]] w fun e w' => e = .returned (.bool true) ∧ Below w.heap.size w w' := by
  have HF := hid (fun W (h : Below w.heap.size w W) => Fits_any a sa cap scap l sl size W (hr.below h (Nat.le_refl _)) (hq.below h (Nat.le_refl _)))
  have H1 := hid (fun W (h : Below w.heap.size w W) => tright_any a cap l W (hr.below h (Nat.le_refl _)))
  have H2 := hid (fun W (h : Below w.heap.size w W) => right_any size sa scap sl W (hq.below h (Nat.le_refl _)))
  obtain ⟨hl, hg⟩ := tchk_zero hk
  obtain ⟨s1, s2, s3, s4⟩ := chk_zero hc
  have H3 := hid (fun W (h : Below w.heap.size w W) => rround_any a cap l W (hr.below h (Nat.le_refl _)) hl hg)
  rw [hk] at H1
  rw [hc] at H2
  obtain ⟨r1, r2⟩ : 1 ≤ rnd l ∧ rnd l ≤ 1099511627776 := by
    rcases rnd_cases hg with ⟨_, _, r⟩ | ⟨e, _⟩
    · exact r
    · omega
  have H4 := hid (fun W (h : Below w.heap.size w W) => lcmOf_pair (rnd l) size W.heap.size (W.alloc (.cells #[.int .i64 (rnd l), .int .i64 size] 3)) (World.cell?_alloc_at _ _ _ _ rfl) (World.cell?_alloc_at _ _ _ _ rfl) ⟨r1, r2⟩ ⟨s1, by omega⟩)
  rw [pair_val r1 r2 s1 s2] at H4
  have e1 : fitE l size sl = 0 := fitE_of hk hc he hb
  have b1 : 1 ≤ both l size := both_pos r1 s1
  have e2 : lack size sl l (both l size) = fitN l size sl := by unfold fitN; rw [if_pos e1]
  have H5 := hid (fun W (h : Below w.heap.size w W) => fitsBy_any a sa cap scap l sl size (both l size) W (hr.below h (Nat.le_refl _)) (hq.below h (Nat.le_refl _)) hk hc (by omega) hb)
  have e3 : byV size sl l (both l size) = -1 := by unfold byV; rw [e2, if_pos hf]
  rw [e3] at H5
  rw [if_pos (by omega)] at H4
  rw [e1, hB] at HF
  rw [hf] at HF
  clear hr hq hk hc hg he s4 e1 e2 e3 hB hf
  generalize rnd l = R at *
  generalize both l size = V at *
  have hne : (V == 0) = false := by simp; omega
  have hm : max (-1 : Int) 0 = 0 := by decide
  have hm2 : (-1 : Int) < 0 := by decide
  go_enter Try.func4, Try.ntmps4
  go_wp2_with fail
  refine (HF.out _ (by go_grown)).mono ?_
  rintro e w1 ⟨rfl, b⟩
  have HB1 : Hid (Below (w.heap.size + 1) (w.alloc (.cells #[.int .i64 size, .slice sa sl.length scap] 38)) w1) := box1 b
  clear b
  have c1 : w1.cell? ⟨w.heap.size, 0, none⟩ = some (.int .i64 size) := boxc HB1.out 0
  have c2 : w1.cell? ⟨w.heap.size, 1, none⟩ = some (.slice sa sl.length scap) := boxc HB1.out 1
  go_wp2_with fail
  refine (H1.out _ (of_alloc HB1.out)).mono ?_
  rintro e w2 ⟨rfl, b⟩
  have HB2 : Hid (Below (w.heap.size + 1) (w.alloc (.cells #[.int .i64 size, .slice sa sl.length scap] 38)) w2) := box2 HB1.out b
  clear b c1 c2
  have c1 : w2.cell? ⟨w.heap.size, 0, none⟩ = some (.int .i64 size) := boxc HB2.out 0
  have c2 : w2.cell? ⟨w.heap.size, 1, none⟩ = some (.slice sa sl.length scap) := boxc HB2.out 1
  go_wp2_with fail
  refine (H2.out _ (of_alloc HB2.out)).mono ?_
  rintro e w3 ⟨rfl, b⟩
  have HB3 : Hid (Below (w.heap.size + 1) (w.alloc (.cells #[.int .i64 size, .slice sa sl.length scap] 38)) w3) := box2 HB2.out b
  clear b c1 c2
  have c1 : w3.cell? ⟨w.heap.size, 0, none⟩ = some (.int .i64 size) := boxc HB3.out 0
  have c2 : w3.cell? ⟨w.heap.size, 1, none⟩ = some (.slice sa sl.length scap) := boxc HB3.out 1
  go_wp2_with fail
  refine (H3.out _ (of_alloc HB3.out)).mono ?_
  rintro e w4 ⟨rfl, b⟩
  have HB4 : Hid (Below (w.heap.size + 1) (w.alloc (.cells #[.int .i64 size, .slice sa sl.length scap] 38)) w4) := box2 HB3.out b
  clear b c1 c2
  have c1 : w4.cell? ⟨w.heap.size, 0, none⟩ = some (.int .i64 size) := boxc HB4.out 0
  have c2 : w4.cell? ⟨w.heap.size, 1, none⟩ = some (.slice sa sl.length scap) := boxc HB4.out 1
  go_wp2_with fail
  refine (H4.out _ (of_alloc HB4.out)).mono ?_
  rintro e w5 ⟨rfl, b⟩
  have HB5 : Hid (Below (w.heap.size + 1) (w.alloc (.cells #[.int .i64 size, .slice sa sl.length scap] 38)) w5) := boxa HB4.out b
  clear b c1 c2
  have c1 : w5.cell? ⟨w.heap.size, 0, none⟩ = some (.int .i64 size) := boxc HB5.out 0
  have c2 : w5.cell? ⟨w.heap.size, 1, none⟩ = some (.slice sa sl.length scap) := boxc HB5.out 1
  go_wp2_with fail
  refine (H5.out _ (of_alloc HB5.out)).mono ?_
  rintro e w6 ⟨rfl, b⟩
  have HB6 : Hid (Below (w.heap.size + 1) (w.alloc (.cells #[.int .i64 size, .slice sa sl.length scap] 38)) w6) := box2 HB5.out b
  clear b c1 c2
  have c1 : w6.cell? ⟨w.heap.size, 0, none⟩ = some (.int .i64 size) := boxc HB6.out 0
  have c2 : w6.cell? ⟨w.heap.size, 1, none⟩ = some (.slice sa sl.length scap) := boxc HB6.out 1
  go_wp2_with fail
  go_ret
  exact ⟨by first | rfl | (simp; done) | (simp; omega), (of_alloc HB6.out)⟩
set_option maxRecDepth 20000 in
set_option maxHeartbeats 1000000 in
theorem fits_no (a sa : Option Addr) (cap scap : Nat) (l : List Tk) (size : Int) (sl : List Sp) (w : World) (hr : Tks w a l) (hq : Sps w sa sl) (hk : tchk l = 0) (hc : chk size sl = 0) (he : rndE l = 0) (hb : both l size ≤ 50000) (hf : 1 ≤ fitN l size sl) (hf2 : fitN l size sl ≤ 50000) (hB : fitB l size sl = false) :
    Calls Try.prog 4 #[.slice a l.length cap, .agg #[.int .i64 size, .slice sa sl.length scap]] w fun e w' => e = .returned (.bool true) ∧ Below w.heap.size w w' := by
  have HF := hid (fun W (h : Below w.heap.size w W) => Fits_any a sa cap scap l sl size W (hr.below h (Nat.le_refl _)) (hq.below h (Nat.le_refl _)))
  have H1 := hid (fun W (h : Below w.heap.size w W) => tright_any a cap l W (hr.below h (Nat.le_refl _)))
  have H2 := hid (fun W (h : Below w.heap.size w W) => right_any size sa scap sl W (hq.below h (Nat.le_refl _)))
  obtain ⟨hl, hg⟩ := tchk_zero hk
  obtain ⟨s1, s2, s3, s4⟩ := chk_zero hc
  have H3 := hid (fun W (h : Below w.heap.size w W) => rround_any a cap l W (hr.below h (Nat.le_refl _)) hl hg)
  rw [hk] at H1
  rw [hc] at H2
  obtain ⟨r1, r2⟩ : 1 ≤ rnd l ∧ rnd l ≤ 1099511627776 := by
    rcases rnd_cases hg with ⟨_, _, r⟩ | ⟨e, _⟩
    · exact r
    · omega
  have H4 := hid (fun W (h : Below w.heap.size w W) => lcmOf_pair (rnd l) size W.heap.size (W.alloc (.cells #[.int .i64 (rnd l), .int .i64 size] 3)) (World.cell?_alloc_at _ _ _ _ rfl) (World.cell?_alloc_at _ _ _ _ rfl) ⟨r1, r2⟩ ⟨s1, by omega⟩)
  rw [pair_val r1 r2 s1 s2] at H4
  have e1 : fitE l size sl = 0 := fitE_of hk hc he hb
  have b1 : 1 ≤ both l size := both_pos r1 s1
  have e2 : lack size sl l (both l size) = fitN l size sl := by unfold fitN; rw [if_pos e1]
  have H5 := hid (fun W (h : Below w.heap.size w W) => fitsBy_any a sa cap scap l sl size (both l size) W (hr.below h (Nat.le_refl _)) (hq.below h (Nat.le_refl _)) hk hc (by omega) hb)
  have e3 : byV size sl l (both l size) = fitN l size sl := by unfold byV; rw [e2, if_neg (by omega)]
  rw [e3] at H5
  rw [if_pos (by omega)] at H4
  rw [e1, hB] at HF
  clear hr hq hk hc hg he s4 e1 e2 e3 hB
  generalize rnd l = R at *
  generalize both l size = V at *
  have hne : (V == 0) = false := by simp; omega
  generalize fitN l size sl = X at *
  have hm : max X 0 = X := by omega
  go_enter Try.func4, Try.ntmps4
  go_wp2_with fail
  refine (HF.out _ (by go_grown)).mono ?_
  rintro e w1 ⟨rfl, b⟩
  have HB1 : Hid (Below (w.heap.size + 1) (w.alloc (.cells #[.int .i64 size, .slice sa sl.length scap] 38)) w1) := box1 b
  clear b
  have c1 : w1.cell? ⟨w.heap.size, 0, none⟩ = some (.int .i64 size) := boxc HB1.out 0
  have c2 : w1.cell? ⟨w.heap.size, 1, none⟩ = some (.slice sa sl.length scap) := boxc HB1.out 1
  go_wp2_with fail
  refine (H1.out _ (of_alloc HB1.out)).mono ?_
  rintro e w2 ⟨rfl, b⟩
  have HB2 : Hid (Below (w.heap.size + 1) (w.alloc (.cells #[.int .i64 size, .slice sa sl.length scap] 38)) w2) := box2 HB1.out b
  clear b c1 c2
  have c1 : w2.cell? ⟨w.heap.size, 0, none⟩ = some (.int .i64 size) := boxc HB2.out 0
  have c2 : w2.cell? ⟨w.heap.size, 1, none⟩ = some (.slice sa sl.length scap) := boxc HB2.out 1
  go_wp2_with fail
  refine (H2.out _ (of_alloc HB2.out)).mono ?_
  rintro e w3 ⟨rfl, b⟩
  have HB3 : Hid (Below (w.heap.size + 1) (w.alloc (.cells #[.int .i64 size, .slice sa sl.length scap] 38)) w3) := box2 HB2.out b
  clear b c1 c2
  have c1 : w3.cell? ⟨w.heap.size, 0, none⟩ = some (.int .i64 size) := boxc HB3.out 0
  have c2 : w3.cell? ⟨w.heap.size, 1, none⟩ = some (.slice sa sl.length scap) := boxc HB3.out 1
  go_wp2_with fail
  refine (H3.out _ (of_alloc HB3.out)).mono ?_
  rintro e w4 ⟨rfl, b⟩
  have HB4 : Hid (Below (w.heap.size + 1) (w.alloc (.cells #[.int .i64 size, .slice sa sl.length scap] 38)) w4) := box2 HB3.out b
  clear b c1 c2
  have c1 : w4.cell? ⟨w.heap.size, 0, none⟩ = some (.int .i64 size) := boxc HB4.out 0
  have c2 : w4.cell? ⟨w.heap.size, 1, none⟩ = some (.slice sa sl.length scap) := boxc HB4.out 1
  go_wp2_with fail
  refine (H4.out _ (of_alloc HB4.out)).mono ?_
  rintro e w5 ⟨rfl, b⟩
  have HB5 : Hid (Below (w.heap.size + 1) (w.alloc (.cells #[.int .i64 size, .slice sa sl.length scap] 38)) w5) := boxa HB4.out b
  clear b c1 c2
  have c1 : w5.cell? ⟨w.heap.size, 0, none⟩ = some (.int .i64 size) := boxc HB5.out 0
  have c2 : w5.cell? ⟨w.heap.size, 1, none⟩ = some (.slice sa sl.length scap) := boxc HB5.out 1
  go_wp2_with fail
  refine (H5.out _ (of_alloc HB5.out)).mono ?_
  rintro e w6 ⟨rfl, b⟩
  have HB6 : Hid (Below (w.heap.size + 1) (w.alloc (.cells #[.int .i64 size, .slice sa sl.length scap] 38)) w6) := box2 HB5.out b
  clear b c1 c2
  have c1 : w6.cell? ⟨w.heap.size, 0, none⟩ = some (.int .i64 size) := boxc HB6.out 0
  have c2 : w6.cell? ⟨w.heap.size, 1, none⟩ = some (.slice sa sl.length scap) := boxc HB6.out 1
  go_wp2_with fail
  go_ret
  exact ⟨by first | rfl | (simp; done) | (simp; omega), (of_alloc HB6.out)⟩
theorem taskFits_walk (a : Option Addr) (len cap : Nat) (l : List Tk) (size : Int) (sa : Option Addr) (slen scap : Nat) (sl : List Sp) (w : World) (h : IsTks w a len cap l) (hs : wf64 size) (k : IsSps w sa slen scap sl) :
    Calls Try.prog 4 #[.slice a len cap, .agg #[.int .i64 size, .slice sa slen scap]] w fun e w' => e = .returned (.bool true) ∧ Below w.heap.size w w' := by
  obtain ⟨rfl, h1, h2, hr, _, _⟩ := h
  obtain ⟨rfl, k1, k2, hq, _, _⟩ := k
  by_cases hk : tchk l = 0
  · by_cases hc : chk size sl = 0
    · by_cases he : rndE l = 0
      · by_cases hb : both l size ≤ 50000
        · rcases fit_cases (fitE_of hk hc he hb) with ⟨f, g, _⟩ | ⟨f1, f2, g, _⟩
          · exact fits_yes a sa cap scap l size sl w hr hq hk hc he hb f g
          · exact fits_no a sa cap scap l size sl w hr hq hk hc he hb f1 f2 g
        · by_cases hb2 : both l size ≤ 1099511627776
          · exact fits_e5 a sa cap scap l size sl w hr hq hk hc he (by omega) hb2
          · exact fits_e4 a sa cap scap l size sl w hr hq hk hc he (by omega)
      · exact fits_e3 a sa cap scap l size sl w hr hq hk hc he
    · exact fits_e2 a sa cap scap l size sl w hr hq hk hc
  · exact fits_e1 a sa cap scap l size sl w hr hq hk
end TaskC
end Go.Proofs.Ytpeapmefnabhfaa
