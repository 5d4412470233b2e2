/- The walk of TaskWhole. -/
import Derived.Test.YtpeapmefnabhfaaTskM2
import Derived.Test.YtpeapmefnabhfaaTskV
set_option linter.unusedVariables false
namespace Go.Proofs.Ytpeapmefnabhfaa
open Go.RowKit hiding tok
open SpanM SupM SpanC TaskM
open RowsO hiding Tk
namespace TaskC
/-- each job due when the next one may come -/
def due1 (x : Tk) : Tk := (x.1, x.2.1, x.2.1)
def dues (l : List Tk) : List Tk := l.map due1
theorem dues_len (l : List Tk) : (dues l).length = l.length := by simp [dues]
theorem dues_due (l : List Tk) : ∀ x ∈ dues l, x.2.2 = x.2.1 := by
  intro x hx
  simp only [dues, List.mem_map] at hx
  obtain ⟨y, _, rfl⟩ := hx
  rfl
theorem dues_step (l : List Tk) (k : Nat) (h : k < l.length) {x y z : Int} (e : l.getD k zTk = (x, y, z)) : dues (l.take (k + 1)) ++ l.drop (k + 1) = dues (l.take k) ++ (x, y, y) :: l.drop (k + 1) ∧ dues (l.take k) ++ l.drop k = dues (l.take k) ++ (x, y, z) :: l.drop (k + 1) := by
  have e2 : l[k] = (x, y, z) := by rw [← e]; simp [List.getD, h]
  constructor
  · rw [tk_snoc l k h, e]; simp [dues, due1]
  · rw [List.drop_eq_getElem_cons h, e2]
/-- what is told with all times there are -/
theorem whole_says {l : List Tk} {size : Int} (hr : roundE l = 0) (hd : ∀ x ∈ l, x.2.2 = x.2.1) (s1 : 1 ≤ size) (s2 : size ≤ 1000000) : fitE l size [(0, size)] = 6 ∨ (fitE l size [(0, size)] = 0 ∧ fitB l size [(0, size)] = decide (useV l ≤ roundV l)) := by
  obtain ⟨hk, he, e1, _, r1, r2⟩ := roundE_zero hr
  obtain ⟨hl, hg⟩ := tchk_zero hk
  have hc := all_chk s1 s2
  by_cases c : tooLong l size
  · left; unfold fitE; rw [if_pos hk, if_pos hc, if_pos c]
  · right
    have e0 : fitE l size [(0, size)] = 0 := by unfold fitE; rw [if_pos hk, if_pos hc, if_neg c]
    refine ⟨e0, ?_⟩
    have w := whole_iff (size := size) s1 hg hd (rnd_dvd hg he) r1
    have u : useV l = use (rnd l) l := by unfold useV; rw [if_pos hr, e1]
    rw [u, e1]
    by_cases d : use (rnd l) l ≤ rnd l
    · rw [decide_eq_true d]; exact (fit_of e0 (w.2 d)).1
    · rw [decide_eq_false d]
      rcases fit_cases e0 with ⟨_, _, f⟩ | ⟨_, _, f, _⟩
      · exact absurd (w.1 f) d
      · exact f
set_option maxHeartbeats 1000000 in
theorem whole_e1 (a : Option Addr) (cap : Nat) (l : List Tk) (size : Int) (w : World) (hr : Tks w a l) (az : a = none → cap = 0) (hm : l.length ≤ maxLen) (hby : l.length * 24 ≤ 140737488355328) (he : roundE (dues l) ≠ 0) :
    Calls Try.prog 9 #[.slice a l.length cap, .int .i64 size] w fun e w' => e = .returned (.bool true) ∧ Below w.heap.size w w' := by
  have HC := hid (cloneTk_any a cap l w hr az hm hby)
  have HU := hid (fun b c W (h : Tks W b (dues l)) => use_any b c (dues l) W h)
  rw [dues_len] at HU
  have HLEN := hid (dues_len l)
  have HST := hid (fun k (h : k < l.length) x y z (e : l.getD k zTk = (x, y, z)) => dues_step l k h e)
  have hne : (roundE (dues l) != 0) = true := by simp [he]
  clear hr az hm he
  generalize roundE (dues l) = E at *
  generalize useV (dues l) = U at *
  generalize roundV (dues l) = R at *
  have hbi : (l.length : Int) ≤ 5864062014806 := by omega
  clear hby
  go_enter Try.func9, Try.ntmps9
  go_wp2_with fail
  refine HC.out.mono ?_
  rintro e w1 ⟨⟨v1, rfl, ho1⟩, b⟩
  have HB1 := hid b
  have HO1 := hid ho1
  obtain ⟨a1, c1, hv1, _⟩ := ho1.rows
  subst hv1
  clear b ho1
  go_wp2_with fail
  go_loopw [16] (fun vI wr => ∃ k : Nat, k ≤ l.length ∧ vI = .int .i64 k ∧ OwnTk wr w.heap.size (.slice a1 l.length c1) (dues (l.take k) ++ l.drop k) ∧ Below w.heap.size w wr) (fun vI _ => l.length - (intOf vI).toNat)
  case atStart => exact ⟨0, by omega, rfl, by simpa [dues] using HO1.out, HB1.out⟩
  case round =>
    obtain ⟨k, hk, rfl, ho, hb⟩ := hrel
    have HB := hid hb
    have HO := hid ho
    have hln : (dues (l.take k) ++ l.drop k).length = l.length := by rw [List.length_append, dues_len, List.length_take, List.length_drop]; omega
    by_cases hlt : k < l.length
    · obtain ⟨g1, cp1, hv, gb, gl⟩ := own_some ho (by omega)
      rw [hln] at hv
      injection hv with e1 e2 e3
      subst e1 e3
      obtain ⟨x, y, z, he⟩ : ∃ x y z, l.getD k zTk = (x, y, z) := ⟨_, _, _, rfl⟩
      obtain ⟨s1, s2⟩ := HST.out k hlt x y z he
      have hpl : (dues (l.take k)).length = k := by rw [dues_len, List.length_take]; omega
      obtain ⟨⟨k1, k2, k3⟩, k4⟩ := own_cells ho hln.symm k (by omega)
      have hgd : (dues (l.take k) ++ l.drop k).getD k zTk = (x, y, z) := by
        rw [s2, List.getD, List.getElem?_append_right (by omega), hpl]; simp
      rw [hgd] at k1 k2 k3
      simp only at k1 k2 k3
      have k4' := k4 (k * 3 + 2)
      rw [s2] at ho
      have HS := own_due (v := y) ho (by rw [← s2, hln])
      rw [hpl, ← s1] at HS
      have HS' := hid HS
      have i1 : (0 : Int) ≤ (k : Int) := by omega
      have i2 : (k : Int) < (l.length : Int) := by omega
      clear ho hb HS k1 k4 hgd s1 s2 hpl hln e2 he
      go_wp2_with fail
      go_roundw
      case rel =>
        obtain ⟨o2, gr⟩ := HS'.out
        exact ⟨k + 1, by omega, by go_num, o2, Below.grown HB.out gr HB.out.size (fun j hj => by simp at hj; omega)⟩
      case measure => simp [intOf]; omega
    · obtain rfl : k = l.length := by omega
      rw [List.take_length, List.drop_length, List.append_nil] at HO
      obtain ⟨a2, c2, hv, hrw⟩ := OwnTk.rows (show OwnTk _ _ _ _ from HO.out)
      rw [HLEN.out] at hv
      injection hv with e1 e2 e3
      subst e1 e3
      have HRW := hid hrw
      have HU1 := hid (HU.out _ c1 wr hrw)
      clear ho hb hln hrw e2
      go_wp2_with fail
      refine ((fun (_ : Below w.heap.size w _) => HU1.out) HB.out).mono ?_
      rintro e w1 ⟨rfl, b⟩
      have HB1 : Hid (Below w.heap.size w w1) := bel_of HB.out b
      clear b
      go_wp2_with fail
      refine ((fun (_ : Below w.heap.size w _) => tlives _) HB1.out).mono ?_
      rintro e w2 ⟨rfl, b⟩
      have HB2 : Hid (Below w.heap.size w w2) := bel_of HB1.out b
      clear b
      go_wp2_with fail
      refine ((fun (_ : Below w.heap.size w _) => tlives _) HB2.out).mono ?_
      rintro e w3 ⟨rfl, b⟩
      have HB3 : Hid (Below w.heap.size w w3) := bel_of HB2.out b
      clear b
      go_wp2_with fail
      go_ret
      exact ⟨by first | rfl | simp, HB3.out⟩
set_option maxHeartbeats 1000000 in
theorem whole_e2 (a : Option Addr) (cap : Nat) (l : List Tk) (size : Int) (w : World) (hr : Tks w a l) (az : a = none → cap = 0) (hm : l.length ≤ maxLen) (hby : l.length * 24 ≤ 140737488355328) (he : roundE (dues l) = 0) (h1 : size < 1) :
    Calls Try.prog 9 #[.slice a l.length cap, .int .i64 size] w fun e w' => e = .returned (.bool true) ∧ Below w.heap.size w w' := by
  have HC := hid (cloneTk_any a cap l w hr az hm hby)
  have HU := hid (fun b c W (h : Tks W b (dues l)) => use_any b c (dues l) W h)
  rw [dues_len] at HU
  have HLEN := hid (dues_len l)
  have HST := hid (fun k (h : k < l.length) x y z (e : l.getD k zTk = (x, y, z)) => dues_step l k h e)
  rw [he] at HU
  clear hr az hm he
  generalize useV (dues l) = U at *
  generalize roundV (dues l) = R at *
  have hbi : (l.length : Int) ≤ 5864062014806 := by omega
  clear hby
  go_enter Try.func9, Try.ntmps9
  go_wp2_with fail
  refine HC.out.mono ?_
  rintro e w1 ⟨⟨v1, rfl, ho1⟩, b⟩
  have HB1 := hid b
  have HO1 := hid ho1
  obtain ⟨a1, c1, hv1, _⟩ := ho1.rows
  subst hv1
  clear b ho1
  go_wp2_with fail
  go_loopw [16] (fun vI wr => ∃ k : Nat, k ≤ l.length ∧ vI = .int .i64 k ∧ OwnTk wr w.heap.size (.slice a1 l.length c1) (dues (l.take k) ++ l.drop k) ∧ Below w.heap.size w wr) (fun vI _ => l.length - (intOf vI).toNat)
  case atStart => exact ⟨0, by omega, rfl, by simpa [dues] using HO1.out, HB1.out⟩
  case round =>
    obtain ⟨k, hk, rfl, ho, hb⟩ := hrel
    have HB := hid hb
    have HO := hid ho
    have hln : (dues (l.take k) ++ l.drop k).length = l.length := by rw [List.length_append, dues_len, List.length_take, List.length_drop]; omega
    by_cases hlt : k < l.length
    · obtain ⟨g1, cp1, hv, gb, gl⟩ := own_some ho (by omega)
      rw [hln] at hv
      injection hv with e1 e2 e3
      subst e1 e3
      obtain ⟨x, y, z, he⟩ : ∃ x y z, l.getD k zTk = (x, y, z) := ⟨_, _, _, rfl⟩
      obtain ⟨s1, s2⟩ := HST.out k hlt x y z he
      have hpl : (dues (l.take k)).length = k := by rw [dues_len, List.length_take]; omega
      obtain ⟨⟨k1, k2, k3⟩, k4⟩ := own_cells ho hln.symm k (by omega)
      have hgd : (dues (l.take k) ++ l.drop k).getD k zTk = (x, y, z) := by
        rw [s2, List.getD, List.getElem?_append_right (by omega), hpl]; simp
      rw [hgd] at k1 k2 k3
      simp only at k1 k2 k3
      have k4' := k4 (k * 3 + 2)
      rw [s2] at ho
      have HS := own_due (v := y) ho (by rw [← s2, hln])
      rw [hpl, ← s1] at HS
      have HS' := hid HS
      have i1 : (0 : Int) ≤ (k : Int) := by omega
      have i2 : (k : Int) < (l.length : Int) := by omega
      clear ho hb HS k1 k4 hgd s1 s2 hpl hln e2 he
      go_wp2_with fail
      go_roundw
      case rel =>
        obtain ⟨o2, gr⟩ := HS'.out
        exact ⟨k + 1, by omega, by go_num, o2, Below.grown HB.out gr HB.out.size (fun j hj => by simp at hj; omega)⟩
      case measure => simp [intOf]; omega
    · obtain rfl : k = l.length := by omega
      rw [List.take_length, List.drop_length, List.append_nil] at HO
      obtain ⟨a2, c2, hv, hrw⟩ := OwnTk.rows (show OwnTk _ _ _ _ from HO.out)
      rw [HLEN.out] at hv
      injection hv with e1 e2 e3
      subst e1 e3
      have HRW := hid hrw
      have HU1 := hid (HU.out _ c1 wr hrw)
      clear ho hb hln hrw e2
      go_wp2_with fail
      refine ((fun (_ : Below w.heap.size w _) => HU1.out) HB.out).mono ?_
      rintro e w1 ⟨rfl, b⟩
      have HB1 : Hid (Below w.heap.size w w1) := bel_of HB.out b
      clear b
      go_wp2_with fail
      refine ((fun (_ : Below w.heap.size w _) => tlives _) HB1.out).mono ?_
      rintro e w2 ⟨rfl, b⟩
      have HB2 : Hid (Below w.heap.size w w2) := bel_of HB1.out b
      clear b
      go_wp2_with fail
      refine ((fun (_ : Below w.heap.size w _) => tlives _) HB2.out).mono ?_
      rintro e w3 ⟨rfl, b⟩
      have HB3 : Hid (Below w.heap.size w w3) := bel_of HB2.out b
      clear b
      go_wp2_with fail
      go_ret
      exact ⟨by first | rfl | simp, HB3.out⟩
set_option maxHeartbeats 1000000 in
theorem whole_e3 (a : Option Addr) (cap : Nat) (l : List Tk) (size : Int) (w : World) (hr : Tks w a l) (az : a = none → cap = 0) (hm : l.length ≤ maxLen) (hby : l.length * 24 ≤ 140737488355328) (he : roundE (dues l) = 0) (h1 : ¬ size < 1) (h2 : 1000000 < size) :
    Calls Try.prog 9 #[.slice a l.length cap, .int .i64 size] w fun e w' => e = .returned (.bool true) ∧ Below w.heap.size w w' := by
  have HC := hid (cloneTk_any a cap l w hr az hm hby)
  have HU := hid (fun b c W (h : Tks W b (dues l)) => use_any b c (dues l) W h)
  rw [dues_len] at HU
  have HLEN := hid (dues_len l)
  have HST := hid (fun k (h : k < l.length) x y z (e : l.getD k zTk = (x, y, z)) => dues_step l k h e)
  rw [he] at HU
  clear hr az hm he
  generalize useV (dues l) = U at *
  generalize roundV (dues l) = R at *
  have hbi : (l.length : Int) ≤ 5864062014806 := by omega
  clear hby
  go_enter Try.func9, Try.ntmps9
  go_wp2_with fail
  refine HC.out.mono ?_
  rintro e w1 ⟨⟨v1, rfl, ho1⟩, b⟩
  have HB1 := hid b
  have HO1 := hid ho1
  obtain ⟨a1, c1, hv1, _⟩ := ho1.rows
  subst hv1
  clear b ho1
  go_wp2_with fail
  go_loopw [16] (fun vI wr => ∃ k : Nat, k ≤ l.length ∧ vI = .int .i64 k ∧ OwnTk wr w.heap.size (.slice a1 l.length c1) (dues (l.take k) ++ l.drop k) ∧ Below w.heap.size w wr) (fun vI _ => l.length - (intOf vI).toNat)
  case atStart => exact ⟨0, by omega, rfl, by simpa [dues] using HO1.out, HB1.out⟩
  case round =>
    obtain ⟨k, hk, rfl, ho, hb⟩ := hrel
    have HB := hid hb
    have HO := hid ho
    have hln : (dues (l.take k) ++ l.drop k).length = l.length := by rw [List.length_append, dues_len, List.length_take, List.length_drop]; omega
    by_cases hlt : k < l.length
    · obtain ⟨g1, cp1, hv, gb, gl⟩ := own_some ho (by omega)
      rw [hln] at hv
      injection hv with e1 e2 e3
      subst e1 e3
      obtain ⟨x, y, z, he⟩ : ∃ x y z, l.getD k zTk = (x, y, z) := ⟨_, _, _, rfl⟩
      obtain ⟨s1, s2⟩ := HST.out k hlt x y z he
      have hpl : (dues (l.take k)).length = k := by rw [dues_len, List.length_take]; omega
      obtain ⟨⟨k1, k2, k3⟩, k4⟩ := own_cells ho hln.symm k (by omega)
      have hgd : (dues (l.take k) ++ l.drop k).getD k zTk = (x, y, z) := by
        rw [s2, List.getD, List.getElem?_append_right (by omega), hpl]; simp
      rw [hgd] at k1 k2 k3
      simp only at k1 k2 k3
      have k4' := k4 (k * 3 + 2)
      rw [s2] at ho
      have HS := own_due (v := y) ho (by rw [← s2, hln])
      rw [hpl, ← s1] at HS
      have HS' := hid HS
      have i1 : (0 : Int) ≤ (k : Int) := by omega
      have i2 : (k : Int) < (l.length : Int) := by omega
      clear ho hb HS k1 k4 hgd s1 s2 hpl hln e2 he
      go_wp2_with fail
      go_roundw
      case rel =>
        obtain ⟨o2, gr⟩ := HS'.out
        exact ⟨k + 1, by omega, by go_num, o2, Below.grown HB.out gr HB.out.size (fun j hj => by simp at hj; omega)⟩
      case measure => simp [intOf]; omega
    · obtain rfl : k = l.length := by omega
      rw [List.take_length, List.drop_length, List.append_nil] at HO
      obtain ⟨a2, c2, hv, hrw⟩ := OwnTk.rows (show OwnTk _ _ _ _ from HO.out)
      rw [HLEN.out] at hv
      injection hv with e1 e2 e3
      subst e1 e3
      have HRW := hid hrw
      have HU1 := hid (HU.out _ c1 wr hrw)
      clear ho hb hln hrw e2
      go_wp2_with fail
      refine ((fun (_ : Below w.heap.size w _) => HU1.out) HB.out).mono ?_
      rintro e w1 ⟨rfl, b⟩
      have HB1 : Hid (Below w.heap.size w w1) := bel_of HB.out b
      clear b
      go_wp2_with fail
      refine ((fun (_ : Below w.heap.size w _) => tlives _) HB1.out).mono ?_
      rintro e w2 ⟨rfl, b⟩
      have HB2 : Hid (Below w.heap.size w w2) := bel_of HB1.out b
      clear b
      go_wp2_with fail
      refine ((fun (_ : Below w.heap.size w _) => tlives _) HB2.out).mono ?_
      rintro e w3 ⟨rfl, b⟩
      have HB3 : Hid (Below w.heap.size w w3) := bel_of HB2.out b
      clear b
      go_wp2_with fail
      go_ret
      exact ⟨by first | rfl | simp, HB3.out⟩
set_option maxHeartbeats 1000000 in
theorem whole_full (a : Option Addr) (cap : Nat) (l : List Tk) (size : Int) (w : World) (hr : Tks w a l) (az : a = none → cap = 0) (hm : l.length ≤ maxLen) (hby : l.length * 24 ≤ 140737488355328) (he : roundE (dues l) = 0) (h1 : 1 ≤ size) (h2 : size ≤ 1000000) (hf : fitE (dues l) size [(0, size)] = 6) :
    Calls Try.prog 9 #[.slice a l.length cap, .int .i64 size] w fun e w' => e = .returned (.bool true) ∧ Below w.heap.size w w' := by
  have HC := hid (cloneTk_any a cap l w hr az hm hby)
  have HU := hid (fun b c W (h : Tks W b (dues l)) => use_any b c (dues l) W h)
  rw [dues_len] at HU
  have HLEN := hid (dues_len l)
  have HST := hid (fun k (h : k < l.length) x y z (e : l.getD k zTk = (x, y, z)) => dues_step l k h e)
  have HF := hid (fun b c W (h : Tks W b (dues l)) => Fits_any b (some ⟨W.heap.size, 0, none⟩) c 1 (dues l) [(0, size)] size (W.alloc (.cells #[.int .i64 0, .int .i64 size] 55)) (h.below ((Below.refl W.heap.size W).alloc (Nat.le_refl _) _) (Nat.le_refl _)) (.inr ⟨_, 0, rfl, fun i hi => by
    match i, hi with
    | 0, _ => exact ⟨World.cell?_alloc_at _ _ _ _ rfl, World.cell?_alloc_at _ _ _ _ rfl⟩⟩))
  rw [dues_len] at HF
  simp only [List.length_singleton] at HF
  rw [hf] at HF
  rw [he] at HU
  clear hr az hm he hf
  generalize fitN (dues l) size [(0, size)] = X at *
  generalize fitB (dues l) size [(0, size)] = Y at *
  generalize useV (dues l) = U at *
  generalize roundV (dues l) = R at *
  have hbi : (l.length : Int) ≤ 5864062014806 := by omega
  clear hby
  go_enter Try.func9, Try.ntmps9
  go_wp2_with fail
  refine HC.out.mono ?_
  rintro e w1 ⟨⟨v1, rfl, ho1⟩, b⟩
  have HB1 := hid b
  have HO1 := hid ho1
  obtain ⟨a1, c1, hv1, _⟩ := ho1.rows
  subst hv1
  clear b ho1
  go_wp2_with fail
  go_loopw [16] (fun vI wr => ∃ k : Nat, k ≤ l.length ∧ vI = .int .i64 k ∧ OwnTk wr w.heap.size (.slice a1 l.length c1) (dues (l.take k) ++ l.drop k) ∧ Below w.heap.size w wr) (fun vI _ => l.length - (intOf vI).toNat)
  case atStart => exact ⟨0, by omega, rfl, by simpa [dues] using HO1.out, HB1.out⟩
  case round =>
    obtain ⟨k, hk, rfl, ho, hb⟩ := hrel
    have HB := hid hb
    have HO := hid ho
    have hln : (dues (l.take k) ++ l.drop k).length = l.length := by rw [List.length_append, dues_len, List.length_take, List.length_drop]; omega
    by_cases hlt : k < l.length
    · obtain ⟨g1, cp1, hv, gb, gl⟩ := own_some ho (by omega)
      rw [hln] at hv
      injection hv with e1 e2 e3
      subst e1 e3
      obtain ⟨x, y, z, he⟩ : ∃ x y z, l.getD k zTk = (x, y, z) := ⟨_, _, _, rfl⟩
      obtain ⟨s1, s2⟩ := HST.out k hlt x y z he
      have hpl : (dues (l.take k)).length = k := by rw [dues_len, List.length_take]; omega
      obtain ⟨⟨k1, k2, k3⟩, k4⟩ := own_cells ho hln.symm k (by omega)
      have hgd : (dues (l.take k) ++ l.drop k).getD k zTk = (x, y, z) := by
        rw [s2, List.getD, List.getElem?_append_right (by omega), hpl]; simp
      rw [hgd] at k1 k2 k3
      simp only at k1 k2 k3
      have k4' := k4 (k * 3 + 2)
      rw [s2] at ho
      have HS := own_due (v := y) ho (by rw [← s2, hln])
      rw [hpl, ← s1] at HS
      have HS' := hid HS
      have i1 : (0 : Int) ≤ (k : Int) := by omega
      have i2 : (k : Int) < (l.length : Int) := by omega
      clear ho hb HS k1 k4 hgd s1 s2 hpl hln e2 he
      go_wp2_with fail
      go_roundw
      case rel =>
        obtain ⟨o2, gr⟩ := HS'.out
        exact ⟨k + 1, by omega, by go_num, o2, Below.grown HB.out gr HB.out.size (fun j hj => by simp at hj; omega)⟩
      case measure => simp [intOf]; omega
    · obtain rfl : k = l.length := by omega
      rw [List.take_length, List.drop_length, List.append_nil] at HO
      obtain ⟨a2, c2, hv, hrw⟩ := OwnTk.rows (show OwnTk _ _ _ _ from HO.out)
      rw [HLEN.out] at hv
      injection hv with e1 e2 e3
      subst e1 e3
      have HRW := hid hrw
      have HU1 := hid (HU.out _ c1 wr hrw)
      clear ho hb hln hrw e2
      go_wp2_with fail
      refine ((fun (_ : Below w.heap.size w _) => HU1.out) HB.out).mono ?_
      rintro e w1 ⟨rfl, b⟩
      have HRW1 := hid (HRW.out.below b (Nat.le_refl _))
      have HB1 : Hid (Below w.heap.size w w1) := bel_of HB.out b
      clear b
      go_wp2_with fail
      refine ((fun (_ : Below w.heap.size w _) => tlives _) HB1.out).mono ?_
      rintro e w2 ⟨rfl, b⟩
      have HRW2 := hid (HRW1.out.below b (Nat.le_refl _))
      have HB2 : Hid (Below w.heap.size w w2) := bel_of HB1.out b
      clear b
      go_wp2_with fail
      refine (HF.out _ c1 w2 HRW2.out).mono ?_
      rintro e w3 ⟨rfl, b⟩
      have HB3 := hid (bel_al HB2.out b)
      clear b
      go_wp2_with fail
      go_ret
      exact ⟨by first | rfl | (simp; done), HB3.out⟩
set_option maxHeartbeats 1000000 in
theorem whole_ok (a : Option Addr) (cap : Nat) (l : List Tk) (size : Int) (w : World) (hr : Tks w a l) (az : a = none → cap = 0) (hm : l.length ≤ maxLen) (hby : l.length * 24 ≤ 140737488355328) (he : roundE (dues l) = 0) (h1 : 1 ≤ size) (h2 : size ≤ 1000000) (hf : fitE (dues l) size [(0, size)] = 0) (hB : fitB (dues l) size [(0, size)] = decide (useV (dues l) ≤ roundV (dues l))) :
    Calls Try.prog 9 #[.slice a l.length cap, .int .i64 size] w fun e w' => e = .returned (.bool true) ∧ Below w.heap.size w w' := by
  have HC := hid (cloneTk_any a cap l w hr az hm hby)
  have HU := hid (fun b c W (h : Tks W b (dues l)) => use_any b c (dues l) W h)
  rw [dues_len] at HU
  have HLEN := hid (dues_len l)
  have HST := hid (fun k (h : k < l.length) x y z (e : l.getD k zTk = (x, y, z)) => dues_step l k h e)
  have HF := hid (fun b c W (h : Tks W b (dues l)) => Fits_any b (some ⟨W.heap.size, 0, none⟩) c 1 (dues l) [(0, size)] size (W.alloc (.cells #[.int .i64 0, .int .i64 size] 55)) (h.below ((Below.refl W.heap.size W).alloc (Nat.le_refl _) _) (Nat.le_refl _)) (.inr ⟨_, 0, rfl, fun i hi => by
    match i, hi with
    | 0, _ => exact ⟨World.cell?_alloc_at _ _ _ _ rfl, World.cell?_alloc_at _ _ _ _ rfl⟩⟩))
  rw [dues_len] at HF
  simp only [List.length_singleton] at HF
  rw [hf, hB] at HF
  clear hB
  rw [he] at HU
  clear hr az hm he hf
  generalize fitN (dues l) size [(0, size)] = X at *
  generalize useV (dues l) = U at *
  generalize roundV (dues l) = R at *
  have hbi : (l.length : Int) ≤ 5864062014806 := by omega
  clear hby
  go_enter Try.func9, Try.ntmps9
  go_wp2_with fail
  refine HC.out.mono ?_
  rintro e w1 ⟨⟨v1, rfl, ho1⟩, b⟩
  have HB1 := hid b
  have HO1 := hid ho1
  obtain ⟨a1, c1, hv1, _⟩ := ho1.rows
  subst hv1
  clear b ho1
  go_wp2_with fail
  go_loopw [16] (fun vI wr => ∃ k : Nat, k ≤ l.length ∧ vI = .int .i64 k ∧ OwnTk wr w.heap.size (.slice a1 l.length c1) (dues (l.take k) ++ l.drop k) ∧ Below w.heap.size w wr) (fun vI _ => l.length - (intOf vI).toNat)
  case atStart => exact ⟨0, by omega, rfl, by simpa [dues] using HO1.out, HB1.out⟩
  case round =>
    obtain ⟨k, hk, rfl, ho, hb⟩ := hrel
    have HB := hid hb
    have HO := hid ho
    have hln : (dues (l.take k) ++ l.drop k).length = l.length := by rw [List.length_append, dues_len, List.length_take, List.length_drop]; omega
    by_cases hlt : k < l.length
    · obtain ⟨g1, cp1, hv, gb, gl⟩ := own_some ho (by omega)
      rw [hln] at hv
      injection hv with e1 e2 e3
      subst e1 e3
      obtain ⟨x, y, z, he⟩ : ∃ x y z, l.getD k zTk = (x, y, z) := ⟨_, _, _, rfl⟩
      obtain ⟨s1, s2⟩ := HST.out k hlt x y z he
      have hpl : (dues (l.take k)).length = k := by rw [dues_len, List.length_take]; omega
      obtain ⟨⟨k1, k2, k3⟩, k4⟩ := own_cells ho hln.symm k (by omega)
      have hgd : (dues (l.take k) ++ l.drop k).getD k zTk = (x, y, z) := by
        rw [s2, List.getD, List.getElem?_append_right (by omega), hpl]; simp
      rw [hgd] at k1 k2 k3
      simp only at k1 k2 k3
      have k4' := k4 (k * 3 + 2)
      rw [s2] at ho
      have HS := own_due (v := y) ho (by rw [← s2, hln])
      rw [hpl, ← s1] at HS
      have HS' := hid HS
      have i1 : (0 : Int) ≤ (k : Int) := by omega
      have i2 : (k : Int) < (l.length : Int) := by omega
      clear ho hb HS k1 k4 hgd s1 s2 hpl hln e2 he
      go_wp2_with fail
      go_roundw
      case rel =>
        obtain ⟨o2, gr⟩ := HS'.out
        exact ⟨k + 1, by omega, by go_num, o2, Below.grown HB.out gr HB.out.size (fun j hj => by simp at hj; omega)⟩
      case measure => simp [intOf]; omega
    · obtain rfl : k = l.length := by omega
      rw [List.take_length, List.drop_length, List.append_nil] at HO
      obtain ⟨a2, c2, hv, hrw⟩ := OwnTk.rows (show OwnTk _ _ _ _ from HO.out)
      rw [HLEN.out] at hv
      injection hv with e1 e2 e3
      subst e1 e3
      have HRW := hid hrw
      have HU1 := hid (HU.out _ c1 wr hrw)
      clear ho hb hln hrw e2
      go_wp2_with fail
      refine ((fun (_ : Below w.heap.size w _) => HU1.out) HB.out).mono ?_
      rintro e w1 ⟨rfl, b⟩
      have HRW1 := hid (HRW.out.below b (Nat.le_refl _))
      have HB1 : Hid (Below w.heap.size w w1) := bel_of HB.out b
      clear b
      go_wp2_with fail
      refine ((fun (_ : Below w.heap.size w _) => tlives _) HB1.out).mono ?_
      rintro e w2 ⟨rfl, b⟩
      have HRW2 := hid (HRW1.out.below b (Nat.le_refl _))
      have HB2 : Hid (Below w.heap.size w w2) := bel_of HB1.out b
      clear b
      go_wp2_with fail
      refine (HF.out _ c1 w2 HRW2.out).mono ?_
      rintro e w3 ⟨rfl, b⟩
      have HB3 := hid (bel_al HB2.out b)
      clear b
      go_wp2_with fail
      go_ret
      exact ⟨by first | rfl | (simp; done), HB3.out⟩
theorem taskWhole_walk (a : Option Addr) (len cap : Nat) (l : List Tk) (size : Int) (w : World) (h : IsTks w a len cap l) (hs : wf64 size) (hby : len * 24 ≤ 140737488355328) :
    Calls Try.prog 9 #[.slice a len cap, .int .i64 size] w fun e w' => e = .returned (.bool true) ∧ Below w.heap.size w w' := by
  obtain ⟨rfl, h1, h2, hr, az, _⟩ := h
  have hm : l.length ≤ maxLen := by omega
  have az' : a = none → cap = 0 := fun h => (az h).2
  by_cases he : roundE (dues l) = 0
  · by_cases c1 : size < 1
    · exact whole_e2 a cap l size w hr az' hm hby he c1
    · by_cases c2 : 1000000 < size
      · exact whole_e3 a cap l size w hr az' hm hby he c1 c2
      · rcases whole_says he (dues_due l) (show 1 ≤ size by omega) (show size ≤ 1000000 by omega) with f | ⟨f, g⟩
        · exact whole_full a cap l size w hr az' hm hby he (by omega) (by omega) f
        · exact whole_ok a cap l size w hr az' hm hby he (by omega) (by omega) f g
  · exact whole_e1 a cap l size w hr az' hm hby he
end TaskC
end Go.Proofs.Ytpeapmefnabhfaa
