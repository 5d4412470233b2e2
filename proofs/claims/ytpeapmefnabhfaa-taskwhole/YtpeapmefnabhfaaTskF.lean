/- Contracts of package task: roundOfBoth, firstLack, Fits. -/
import Derived.Test.YtpeapmefnabhfaaTskU
import Derived.Test.YtpeapmefnabhfaaSupA
set_option linter.unusedVariables false
namespace Go.Proofs.Ytpeapmefnabhfaa
open Go.RowKit hiding tok
open SpanM SupM SpanC TaskM
open RowsO hiding Tk
namespace TaskC
/-- a round of tasks and of a set -/
def both (l : List Tk) (size : Int) : Int := NumM.lc 1 [rnd l, size]
def tooLong (l : List Tk) (size : Int) : Prop := rndE l ≠ 0 ∨ 50000 < both l size
instance (l : List Tk) (size : Int) : Decidable (tooLong l size) := by unfold tooLong; infer_instance
theorem both_pos {l : List Tk} {size : Int} (h : 1 ≤ rnd l) (hs : 1 ≤ size) : 1 ≤ both l size := NumM.lc_pos _ 1 (by omega) (by simp; omega)
theorem both_dvd' {l : List Tk} {size : Int} (h : 1 ≤ rnd l) (hs : 1 ≤ size) : rnd l ∣ both l size ∧ size ∣ both l size := by
  have k := ((NumM.lc_dvd [rnd l, size] (both l size) 1 (by omega) (by simp; omega)).1 (Int.dvd_refl _)).2
  exact ⟨k _ (by simp), k _ (by simp)⟩
theorem both_say {l : List Tk} {size : Int} (h : 1 ≤ rnd l) (h2 : rnd l ≤ 1099511627776) (hs : 1 ≤ size) (hs2 : size ≤ 1000000) :
    NumC.lcmSay [rnd l, size] = if both l size ≤ 1099511627776 then (both l size, 0) else (0, 6) := by
  have ok : ∀ x ∈ [rnd l, size], NumM.Ok1 x := by
    intro x hx
    simp at hx
    rcases hx with rfl | rfl
    · exact ⟨h, h2⟩
    · exact ⟨hs, by omega⟩
  have hall : [rnd l, size].all NumC.okB = true := by
    rw [List.all_eq_true]
    intro x hx
    have := ok x hx
    simpa [NumC.okB, NumM.Ok1] using this
  unfold NumC.lcmSay
  rw [if_neg (by simp), if_pos hall, NumM.lcmFrom_eq _ 1 (by omega) (by omega) ok]
  unfold both
  split
  · simp [NumC.lcmVal, NumC.lcmErr]
  · simp [NumC.lcmVal, NumC.lcmErr]
def bothV (l : List Tk) (size : Int) : Int := if rndE l = 0 ∧ both l size ≤ 1099511627776 then both l size else 0
def bothE (l : List Tk) (size : Int) : Int := if rndE l = 0 ∧ both l size ≤ 1099511627776 then 0 else 6
theorem lcm_pair (R size : Int) (g : Nat) (W : World) (h0 : W.cell? ⟨g, 0, none⟩ = some (.int .i64 R)) (h1 : W.cell? ⟨g, 1, none⟩ = some (.int .i64 size)) :
    Calls Try.prog 28 #[.slice (some ⟨g, 0, none⟩) 2 2] W fun e w' => e = .returned (.tuple #[.int .i64 (NumC.lcmSay [R, size]).1, .int .i64 (NumC.lcmSay [R, size]).2]) ∧ ∃ n, w' = W.drewN n := by
  have := NumC.lcm_any (some ⟨g, 0, none⟩) 2 [R, size] W (.inr ⟨g, 0, rfl, fun i hi => by
    match i, hi with
    | 0, _ => simpa using h0
    | 1, _ => simpa using h1⟩)
  simpa using this
theorem both_any (a sa : Option Addr) (cap scap : Nat) (l : List Tk) (sl : List Sp) (size : Int) (w : World) (hr : Tks w a l) (hk : tchk l = 0) (s1 : 1 ≤ size) (s2 : size ≤ 1000000) :
    Calls Try.prog 33 #[.slice a l.length cap, .agg #[.int .i64 size, .slice sa sl.length scap]] w fun e w' => e = .returned (.tuple #[.int .i64 (bothV l size), .int .i64 (bothE l size)]) ∧ Below w.heap.size w w' := by
  have HC := hid (fun W (h : Below w.heap.size w W) => round_ok a cap l W (hr.below h (Nat.le_refl _)) hk)
  rcases rnd_cases (tchk_zero hk).2 with ⟨e1, e2, r1, r2⟩ | ⟨e1, e2, r1⟩
  · have hs := both_say (size := size) r1 r2 s1 s2
    have HV : Hid (NumC.lcmSay [rnd l, size] = (bothV l size, bothE l size)) := by
      show _ = _
      rw [hs]
      unfold bothV bothE
      by_cases c : both l size ≤ 1099511627776
      · rw [if_pos c, if_pos ⟨e1, c⟩, if_pos ⟨e1, c⟩]
      · rw [if_neg c, if_neg (fun h => c h.2), if_neg (fun h => c h.2)]
    rw [e1] at HC
    clear hr hk e1 e2 hs
    generalize rnd l = R at *
    generalize bothV l size = V at *
    generalize bothE l size = E at *
    go_enter Try.func33, Try.ntmps33
    go_wp2_with (go_at_call 10; refine (HC.out _ (by go_grown)).mono ?_; rintro e w1 ⟨rfl, hb⟩; have HB1 := hid (box1 hb); have c0 : w1.cell? ⟨w.heap.size, 0, none⟩ = some (.int .i64 size) := boxc (box1 hb) 0; clear hb)
    have hl := lcm_pair R size w1.heap.size (w1.alloc (.cells #[.int .i64 R, .int .i64 size] 3)) (World.cell?_alloc_at _ _ _ _ rfl) (World.cell?_alloc_at _ _ _ _ rfl)
    rw [HV.out] at hl
    refine hl.mono ?_
    rintro e w2 ⟨rfl, nd, rfl⟩
    clear hl
    go_wp2_with fail
    go_ret2
    exact ⟨rfl, below_drewN ((of_alloc HB1.out).alloc (of_alloc HB1.out).size _) _⟩
  · have e3 : bothV l size = 0 := by unfold bothV; rw [if_neg (by omega)]
    have e4 : bothE l size = 6 := by unfold bothE; rw [if_neg (by omega)]
    rw [e3, e4]
    rw [e1, e2] at HC
    clear hr hk e1 e2 e3 e4
    go_enter Try.func33, Try.ntmps33
    go_wp2_with (go_at_call 10; refine (HC.out _ (by go_grown)).mono ?_; rintro e w1 ⟨rfl, hb⟩; have HB1 := hid (box1 hb); clear hb)
    go_ret2
    exact ⟨rfl, of_alloc HB1.out⟩
/-- the least number of which there is too little; 0: there is none up to R -/
def LackP (size : Int) (sl : List Sp) (l : List Tk) (R v : Int) : Prop :=
  (v = 0 ∧ ∀ m, 0 ≤ m → m ≤ R → ¬ Bad size sl l m) ∨ (1 ≤ v ∧ v ≤ R ∧ Bad size sl l v ∧ ∀ m, 0 ≤ m → m < v → ¬ Bad size sl l m)
theorem LackP.one {size R u v : Int} {sl : List Sp} {l : List Tk} (h : LackP size sl l R u) (k : LackP size sl l R v) : u = v := by
  rcases h with ⟨h1, h2⟩ | ⟨h1, h2, h3, h4⟩ <;> rcases k with ⟨k1, k2⟩ | ⟨k1, k2, k3, k4⟩
  · omega
  · exact absurd k3 (h2 v (by omega) k2)
  · exact absurd h3 (k2 u (by omega) h2)
  · by_cases c : u < v
    · exact absurd h3 (k4 u (by omega) c)
    · by_cases c2 : v < u
      · exact absurd k3 (h4 v (by omega) c2)
      · omega
noncomputable def lack (size : Int) (sl : List Sp) (l : List Tk) (R : Int) : Int := Classical.epsilon (LackP size sl l R)
theorem lack_eq {size R v : Int} {sl : List Sp} {l : List Tk} (h : LackP size sl l R v) : v = lack size sl l R := h.one (Classical.epsilon_spec (p := LackP size sl l R) ⟨v, h⟩)
theorem lst_mono {size n m : Int} {sl : List Sp} (hs : 1 ≤ size) (hg : good size (-1) sl = true) (hn : 0 ≤ n) (h : n ≤ m) : lst size sl n ≤ lst size sl m := by
  obtain ⟨t, ht, e⟩ := (lst_P hs hg (show 0 ≤ m by omega)).2
  have a := (lst_P hs hg hn).1 t ht
  have b := D_mono hs hg hn ht h
  omega
theorem lst_le {size n : Int} {sl : List Sp} (hs : 1 ≤ size) (hg : good size (-1) sl = true) (hn : 0 ≤ n) : 0 ≤ lst size sl n ∧ lst size sl n ≤ n := (lst_P hs hg hn).bd hs hg hn
theorem bad_zero {size : Int} {sl : List Sp} {l : List Tk} (hs : 1 ≤ size) (hg : good size (-1) sl = true) (h : ∀ x ∈ l, tok x) : ¬ Bad size sl l 0 := by
  unfold Bad
  rw [lst_zero hs hg, dem_zero h]
  omega
set_option maxHeartbeats 1000000 in
theorem lack_any (a sa : Option Addr) (cap scap : Nat) (l : List Tk) (sl : List Sp) (size R : Int) (w : World) (hr : Tks w a l) (hq : Sps w sa sl) (hk : tchk l = 0) (hc : chk size sl = 0) (r1 : 0 ≤ R) (r2 : R ≤ 50000) :
    Calls Try.prog 34 #[.slice a l.length cap, .agg #[.int .i64 size, .slice sa sl.length scap], .int .i64 R] w fun e w' => e = .returned (.int .i64 (lack size sl l R)) ∧ Below w.heap.size w w' := by
  obtain ⟨s1, s2, s3, s4⟩ := chk_zero hc
  obtain ⟨hl, hg⟩ := tchk_zero hk
  have HD := hid (fun n (n1 : 0 ≤ n) (n2 : n ≤ 50000) W (h : Below w.heap.size w W) => demand_any a cap l n W (hr.below h (Nat.le_refl _)) hl hg n1 (by omega))
  have HL := hid (fun n (n1 : 0 ≤ n) (n2 : n ≤ 50000) W (h : Below w.heap.size w W) => show Calls Try.prog 26 #[.agg #[.int .i64 size, .slice sa sl.length scap], .int .i64 n] W fun e w' => e = .returned (.tuple #[.int .i64 (lst size sl n), .int .i64 0]) ∧ Below W.heap.size W w' by
    have := least_any size n sa scap sl W (hq.below h (Nat.le_refl _))
    have e : leastE size sl n = 0 := sE_of hc n1 (by omega)
    rw [e] at this
    unfold leastV at this
    rwa [if_pos e] at this)
  have H0 := hid (bad_zero (l := l) s1 s4 hg)
  have HM := hid (fun n m (hn : 0 ≤ n) (h : n ≤ m) => lst_mono s1 s4 hn h)
  have HB := hid (fun n (hn : 0 ≤ n) => lst_le (n := n) s1 s4 hn)
  have HE := hid (fun n (hn : 0 ≤ n) => dem_bd (n := n) hg hl hn)
  have HX := hid (fun v (h : LackP size sl l R v) => lack_eq h)
  generalize lack size sl l R = X at *
  clear hr hq hk hc hg s4
  go_enter Try.func34, Try.ntmps34
  go_wp2_with fail
  go_loopw [7, 8] (fun v7 v8 wr => ∃ H n : Int, v7 = .int .i64 H ∧ v8 = .int .i64 n ∧ 1 ≤ n ∧ n ≤ R + 1 ∧ 0 ≤ H ∧ H ≤ 50000 ∧ Hid (H ≤ lst size sl (n - 1)) ∧ Hid (∀ m, 0 ≤ m → m < n → ¬ Bad size sl l m) ∧ Below (w.heap.size + 1) (w.alloc (.cells #[.int .i64 size, .slice sa sl.length scap] 38)) wr) (fun _ v8 _ => (R + 1 - intOf v8).toNat)
  case atStart =>
    refine ⟨0, 1, rfl, rfl, by omega, by omega, by omega, by omega, ?_, ?_, Below.refl _ _⟩
    · exact (HB.out 0 (by omega)).1
    · intro m h1 h2
      obtain rfl : m = 0 := by omega
      exact H0.out
  case round =>
    obtain ⟨H, n, rfl, rfl, n1, n2, h1, h2, HH, HN, hb⟩ := hrel
    have HBel := hid hb
    by_cases hlt : n ≤ R
    · have hD := HD.out n (by omega) (by omega) wr (of_alloc hb)
      have HD1 := hid hD
      obtain ⟨e1, e2⟩ := HE.out n (by omega)
      obtain ⟨f1, f2⟩ := HB.out n (by omega)
      have f3 := HM.out (n - 1) n (by omega) (by omega)
      have f4 := HH.out
      have HNb := hid (show (lst size sl n < dem l n → Bad size sl l n) ∧ (dem l n ≤ lst size sl n → ¬ Bad size sl l n) from ⟨fun h => h, fun h k => by unfold Bad at k; omega⟩)
      clear hb hD
      generalize hdm : dem l n = d at *
      generalize hls : lst size sl n = s at *
      generalize hl2 : lst size sl (n - 1) = s' at *
      have HLS := hid hls
      clear hdm hls hl2
      by_cases hn : d ≤ H
      · go_wp2_with (go_at_call 30; refine HD1.out.mono ?_; rintro e w2 ⟨rfl, hb2⟩; have HB2 := hid (box2 HBel.out hb2); clear hb2)
        go_roundw
        case rel =>
          refine ⟨H, n + 1, rfl, by go_num, by omega, by omega, by omega, by omega, ?_, ?_, HB2.out⟩
          · show H ≤ lst size sl (n + 1 - 1)
            rw [show n + 1 - 1 = n by omega, HLS.out]; omega
          · intro m m1 m2
            by_cases c : m < n
            · exact HN.out m m1 c
            · obtain rfl : m = n := by omega
              exact HNb.out.2 (by omega)
        case measure => simp [intOf]; omega
      · have hnn : H < d := by omega
        clear hn
        go_wp2_with (go_at_call 30; refine HD1.out.mono ?_; rintro e w2 ⟨rfl, hb2⟩; have HB2 := hid (box2 HBel.out hb2); have c0 : w2.cell? ⟨w.heap.size, 0, none⟩ = some (.int .i64 size) := boxc (box2 HBel.out hb2) 0; have c1 : w2.cell? ⟨w.heap.size, 1, none⟩ = some (.slice sa sl.length scap) := boxc (box2 HBel.out hb2) 1; clear hb2)
        have hL := HL.out n (by omega) (by omega) w2 (of_alloc HB2.out)
        rw [HLS.out] at hL
        refine hL.mono ?_
        clear hL c0 c1
        rintro e w3 ⟨rfl, hb3⟩
        have HB3 := hid (box2 HB2.out hb3)
        clear hb3
        by_cases hbad : s < d
        · go_wp2_with fail
          go_ret
          refine ⟨SpanC.ret_int (HX.out n (.inr ⟨by omega, hlt, HNb.out.1 hbad, HN.out⟩)), of_alloc HB3.out⟩
        · have hbad2 : d ≤ s := by omega
          clear hbad
          go_wp2_with fail
          go_roundw
          case rel =>
            refine ⟨s, n + 1, rfl, by go_num, by omega, by omega, by omega, by omega, ?_, ?_, HB3.out⟩
            · show s ≤ lst size sl (n + 1 - 1)
              rw [show n + 1 - 1 = n by omega, HLS.out]; omega
            · intro m m1 m2
              by_cases c : m < n
              · exact HN.out m m1 c
              · obtain rfl : m = n := by omega
                exact HNb.out.2 (by omega)
          case measure => simp [intOf]; omega
    · have HF : Hid (LackP size sl l R 0) := .inl ⟨rfl, fun m m1 m2 => HN.out m m1 (by omega)⟩
      clear hb
      go_wp2_with fail
      go_ret
      exact ⟨SpanC.ret_int (HX.out 0 HF.out), of_alloc HBel.out⟩
end TaskC
end Go.Proofs.Ytpeapmefnabhfaa
