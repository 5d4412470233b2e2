/- Several texts, one behind the other: TskF TskG TskM. -/
import Derived.Test.YtpnahhpkaegeeaaPkG
import Derived.Test.YtpnahhpkaegeeaaPkH
/- Contracts of package task: roundOfBoth, firstLack, Fits. -/
set_option linter.unusedVariables false
namespace Go.Proofs.Ytpnahhpkaegeeaa
open Go.RowKit hiding tok
open SpanM SupM SpanC TaskM
open RowsO hiding Tk
namespace TaskC
/-- a round of tasks and of a set -/
def both (l : List Tk) (size : Int) : Int := NumM.lc 1 [rnd l, size]
def tooLong (l : List Tk) (size : Int) : Prop := rndE l ≠ 0 ∨ 50000 < both l size
instance (l : List Tk) (size : Int) : Decidable (tooLong l size) := by unfold tooLong; infer_instance
theorem both_pos {l : List Tk} {size : Int} (h : 1 ≤ rnd l) (hs : 1 ≤ size) : 1 ≤ both l size := NumM.lc_pos _ 1 (by omega) (by simp; omega)
theorem both_dvd' {l : List Tk} {size : Int} (h : 1 ≤ rnd l) (hs : 1 ≤ size) : rnd l ∣ both l size ∧ size ∣ both l size := by
  have k := ((NumM.lc_dvd [rnd l, size] (both l size) 1 (by omega) (by simp; omega)).1 (Int.dvd_refl _)).2
  exact ⟨k _ (by simp), k _ (by simp)⟩
theorem both_say {l : List Tk} {size : Int} (h : 1 ≤ rnd l) (h2 : rnd l ≤ 1099511627776) (hs : 1 ≤ size) (hs2 : size ≤ 1000000) :
    NumC.lcmSay [rnd l, size] = if both l size ≤ 1099511627776 then (both l size, 0) else (0, 6) := by
  have ok : ∀ x ∈ [rnd l, size], NumM.Ok1 x := by
    intro x hx
    simp at hx
    rcases hx with rfl | rfl
    · exact ⟨h, h2⟩
    · exact ⟨hs, by omega⟩
  have hall : [rnd l, size].all NumC.okB = true := by
    rw [List.all_eq_true]
    intro x hx
    have := ok x hx
    simpa [NumC.okB, NumM.Ok1] using this
  unfold NumC.lcmSay
  rw [if_neg (by simp), if_pos hall, NumM.lcmFrom_eq _ 1 (by omega) (by omega) ok]
  unfold both
  split
  · simp [NumC.lcmVal, NumC.lcmErr]
  · simp [NumC.lcmVal, NumC.lcmErr]
def bothV (l : List Tk) (size : Int) : Int := if rndE l = 0 ∧ both l size ≤ 1099511627776 then both l size else 0
def bothE (l : List Tk) (size : Int) : Int := if rndE l = 0 ∧ both l size ≤ 1099511627776 then 0 else 6
theorem lcm_pair (R size : Int) (g : Nat) (W : World) (h0 : W.cell? ⟨g, 0, none⟩ = some (.int .i64 R)) (h1 : W.cell? ⟨g, 1, none⟩ = some (.int .i64 size)) :
    Calls Try.prog 84 #[.slice (some ⟨g, 0, none⟩) 2 2] W fun e w' => e = .returned (.tuple #[.int .i64 (NumC.lcmSay [R, size]).1, .int .i64 (NumC.lcmSay [R, size]).2]) ∧ ∃ n, w' = W.drewN n := by
  have := NumC.lcm_any (some ⟨g, 0, none⟩) 2 [R, size] W (.inr ⟨g, 0, rfl, fun i hi => by
    match i, hi with
    | 0, _ => simpa using h0
    | 1, _ => simpa using h1⟩)
  simpa using this
theorem both_any (a sa : Option Addr) (cap scap : Nat) (l : List Tk) (sl : List Sp) (size : Int) (w : World) (hr : Tks w a l) (hk : tchk l = 0) (s1 : 1 ≤ size) (s2 : size ≤ 1000000) :
    Calls Try.prog 62 #[.slice a l.length cap, .agg #[.int .i64 size, .slice sa sl.length scap]] w fun e w' => e = .returned (.tuple #[.int .i64 (bothV l size), .int .i64 (bothE l size)]) ∧ Below w.heap.size w w' := by
  have HC := hid (fun W (h : Below w.heap.size w W) => round_ok a cap l W (hr.below h (Nat.le_refl _)) hk)
  rcases rnd_cases (tchk_zero hk).2 with ⟨e1, e2, r1, r2⟩ | ⟨e1, e2, r1⟩
  · have hs := both_say (size := size) r1 r2 s1 s2
    have HV : Hid (NumC.lcmSay [rnd l, size] = (bothV l size, bothE l size)) := by
      show _ = _
      rw [hs]
      unfold bothV bothE
      by_cases c : both l size ≤ 1099511627776
      · rw [if_pos c, if_pos ⟨e1, c⟩, if_pos ⟨e1, c⟩]
      · rw [if_neg c, if_neg (fun h => c h.2), if_neg (fun h => c h.2)]
    rw [e1] at HC
    clear hr hk e1 e2 hs
    generalize rnd l = R at *
    generalize bothV l size = V at *
    generalize bothE l size = E at *
    go_enter Try.func62, Try.ntmps62
    go_wp2_with (go_at_call 83; refine (HC.out _ (by go_grown)).mono ?_; rintro e w1 ⟨rfl, hb⟩; have HB1 := hid (box1 hb); have c0 : w1.cell? ⟨w.heap.size, 0, none⟩ = some (.int .i64 size) := boxc (box1 hb) 0; clear hb)
    have hl := lcm_pair R size w1.heap.size (w1.alloc (.cells #[.int .i64 R, .int .i64 size] 3)) (World.cell?_alloc_at _ _ _ _ rfl) (World.cell?_alloc_at _ _ _ _ rfl)
    rw [HV.out] at hl
    refine hl.mono ?_
    rintro e w2 ⟨rfl, nd, rfl⟩
    clear hl
    go_wp2_with fail
    go_ret2
    exact ⟨rfl, below_drewN ((of_alloc HB1.out).alloc (of_alloc HB1.out).size _) _⟩
  · have e3 : bothV l size = 0 := by unfold bothV; rw [if_neg (by omega)]
    have e4 : bothE l size = 6 := by unfold bothE; rw [if_neg (by omega)]
    rw [e3, e4]
    rw [e1, e2] at HC
    clear hr hk e1 e2 e3 e4
    go_enter Try.func62, Try.ntmps62
    go_wp2_with (go_at_call 83; refine (HC.out _ (by go_grown)).mono ?_; rintro e w1 ⟨rfl, hb⟩; have HB1 := hid (box1 hb); clear hb)
    go_ret2
    exact ⟨rfl, of_alloc HB1.out⟩
/-- the least number of which there is too little; 0: there is none up to R -/
def LackP (size : Int) (sl : List Sp) (l : List Tk) (R v : Int) : Prop :=
  (v = 0 ∧ ∀ m, 0 ≤ m → m ≤ R → ¬ Bad size sl l m) ∨ (1 ≤ v ∧ v ≤ R ∧ Bad size sl l v ∧ ∀ m, 0 ≤ m → m < v → ¬ Bad size sl l m)
theorem LackP.one {size R u v : Int} {sl : List Sp} {l : List Tk} (h : LackP size sl l R u) (k : LackP size sl l R v) : u = v := by
  rcases h with ⟨h1, h2⟩ | ⟨h1, h2, h3, h4⟩ <;> rcases k with ⟨k1, k2⟩ | ⟨k1, k2, k3, k4⟩
  · omega
  · exact absurd k3 (h2 v (by omega) k2)
  · exact absurd h3 (k2 u (by omega) h2)
  · by_cases c : u < v
    · exact absurd h3 (k4 u (by omega) c)
    · by_cases c2 : v < u
      · exact absurd k3 (h4 v (by omega) c2)
      · omega
noncomputable def lack (size : Int) (sl : List Sp) (l : List Tk) (R : Int) : Int := Classical.epsilon (LackP size sl l R)
theorem lack_eq {size R v : Int} {sl : List Sp} {l : List Tk} (h : LackP size sl l R v) : v = lack size sl l R := h.one (Classical.epsilon_spec (p := LackP size sl l R) ⟨v, h⟩)
theorem lst_mono {size n m : Int} {sl : List Sp} (hs : 1 ≤ size) (hg : good size (-1) sl = true) (hn : 0 ≤ n) (h : n ≤ m) : lst size sl n ≤ lst size sl m := by
  obtain ⟨t, ht, e⟩ := (lst_P hs hg (show 0 ≤ m by omega)).2
  have a := (lst_P hs hg hn).1 t ht
  have b := D_mono hs hg hn ht h
  omega
theorem lst_le {size n : Int} {sl : List Sp} (hs : 1 ≤ size) (hg : good size (-1) sl = true) (hn : 0 ≤ n) : 0 ≤ lst size sl n ∧ lst size sl n ≤ n := (lst_P hs hg hn).bd hs hg hn
theorem bad_zero {size : Int} {sl : List Sp} {l : List Tk} (hs : 1 ≤ size) (hg : good size (-1) sl = true) (h : ∀ x ∈ l, tok x) : ¬ Bad size sl l 0 := by
  unfold Bad
  rw [lst_zero hs hg, dem_zero h]
  omega
set_option maxHeartbeats 1000000 in
theorem lack_any (a sa : Option Addr) (cap scap : Nat) (l : List Tk) (sl : List Sp) (size R : Int) (w : World) (hr : Tks w a l) (hq : Sps w sa sl) (hk : tchk l = 0) (hc : chk size sl = 0) (r1 : 0 ≤ R) (r2 : R ≤ 50000) :
    Calls Try.prog 63 #[.slice a l.length cap, .agg #[.int .i64 size, .slice sa sl.length scap], .int .i64 R] w fun e w' => e = .returned (.int .i64 (lack size sl l R)) ∧ Below w.heap.size w w' := by
  obtain ⟨s1, s2, s3, s4⟩ := chk_zero hc
  obtain ⟨hl, hg⟩ := tchk_zero hk
  have HD := hid (fun n (n1 : 0 ≤ n) (n2 : n ≤ 50000) W (h : Below w.heap.size w W) => demand_any a cap l n W (hr.below h (Nat.le_refl _)) hl hg n1 (by omega))
  have HL := hid (fun n (n1 : 0 ≤ n) (n2 : n ≤ 50000) W (h : Below w.heap.size w W) => show Calls Try.prog 86 #[.agg #[.int .i64 size, .slice sa sl.length scap], .int .i64 n] W fun e w' => e = .returned (.tuple #[.int .i64 (lst size sl n), .int .i64 0]) ∧ Below W.heap.size W w' by
    have := least_any size n sa scap sl W (hq.below h (Nat.le_refl _))
    have e : leastE size sl n = 0 := sE_of hc n1 (by omega)
    rw [e] at this
    unfold leastV at this
    rwa [if_pos e] at this)
  have H0 := hid (bad_zero (l := l) s1 s4 hg)
  have HM := hid (fun n m (hn : 0 ≤ n) (h : n ≤ m) => lst_mono s1 s4 hn h)
  have HB := hid (fun n (hn : 0 ≤ n) => lst_le (n := n) s1 s4 hn)
  have HE := hid (fun n (hn : 0 ≤ n) => dem_bd (n := n) hg hl hn)
  have HX := hid (fun v (h : LackP size sl l R v) => lack_eq h)
  generalize lack size sl l R = X at *
  clear hr hq hk hc hg s4
  go_enter Try.func63, Try.ntmps63
  go_wp2_with fail
  go_loopw [7, 8] (fun v7 v8 wr => ∃ H n : Int, v7 = .int .i64 H ∧ v8 = .int .i64 n ∧ 1 ≤ n ∧ n ≤ R + 1 ∧ 0 ≤ H ∧ H ≤ 50000 ∧ Hid (H ≤ lst size sl (n - 1)) ∧ Hid (∀ m, 0 ≤ m → m < n → ¬ Bad size sl l m) ∧ Below (w.heap.size + 1) (w.alloc (.cells #[.int .i64 size, .slice sa sl.length scap] 25)) wr) (fun _ v8 _ => (R + 1 - intOf v8).toNat)
  case atStart =>
    refine ⟨0, 1, rfl, rfl, by omega, by omega, by omega, by omega, ?_, ?_, Below.refl _ _⟩
    · exact (HB.out 0 (by omega)).1
    · intro m h1 h2
      obtain rfl : m = 0 := by omega
      exact H0.out
  case round =>
    obtain ⟨H, n, rfl, rfl, n1, n2, h1, h2, HH, HN, hb⟩ := hrel
    have HBel := hid hb
    by_cases hlt : n ≤ R
    · have hD := HD.out n (by omega) (by omega) wr (of_alloc hb)
      have HD1 := hid hD
      obtain ⟨e1, e2⟩ := HE.out n (by omega)
      obtain ⟨f1, f2⟩ := HB.out n (by omega)
      have f3 := HM.out (n - 1) n (by omega) (by omega)
      have f4 := HH.out
      have HNb := hid (show (lst size sl n < dem l n → Bad size sl l n) ∧ (dem l n ≤ lst size sl n → ¬ Bad size sl l n) from ⟨fun h => h, fun h k => by unfold Bad at k; omega⟩)
      clear hb hD
      generalize hdm : dem l n = d at *
      generalize hls : lst size sl n = s at *
      generalize hl2 : lst size sl (n - 1) = s' at *
      have HLS := hid hls
      clear hdm hls hl2
      by_cases hn : d ≤ H
      · go_wp2_with (go_at_call 85; refine HD1.out.mono ?_; rintro e w2 ⟨rfl, hb2⟩; have HB2 := hid (box2 HBel.out hb2); clear hb2)
        go_roundw
        case rel =>
          refine ⟨H, n + 1, rfl, by go_num, by omega, by omega, by omega, by omega, ?_, ?_, HB2.out⟩
          · show H ≤ lst size sl (n + 1 - 1)
            rw [show n + 1 - 1 = n by omega, HLS.out]; omega
          · intro m m1 m2
            by_cases c : m < n
            · exact HN.out m m1 c
            · obtain rfl : m = n := by omega
              exact HNb.out.2 (by omega)
        case measure => simp [intOf]; omega
      · have hnn : H < d := by omega
        clear hn
        go_wp2_with (go_at_call 85; refine HD1.out.mono ?_; rintro e w2 ⟨rfl, hb2⟩; have HB2 := hid (box2 HBel.out hb2); have c0 : w2.cell? ⟨w.heap.size, 0, none⟩ = some (.int .i64 size) := boxc (box2 HBel.out hb2) 0; have c1 : w2.cell? ⟨w.heap.size, 1, none⟩ = some (.slice sa sl.length scap) := boxc (box2 HBel.out hb2) 1; clear hb2)
        have hL := HL.out n (by omega) (by omega) w2 (of_alloc HB2.out)
        rw [HLS.out] at hL
        refine hL.mono ?_
        clear hL c0 c1
        rintro e w3 ⟨rfl, hb3⟩
        have HB3 := hid (box2 HB2.out hb3)
        clear hb3
        by_cases hbad : s < d
        · go_wp2_with fail
          go_ret
          refine ⟨SpanC.ret_int (HX.out n (.inr ⟨by omega, hlt, HNb.out.1 hbad, HN.out⟩)), of_alloc HB3.out⟩
        · have hbad2 : d ≤ s := by omega
          clear hbad
          go_wp2_with fail
          go_roundw
          case rel =>
            refine ⟨s, n + 1, rfl, by go_num, by omega, by omega, by omega, by omega, ?_, ?_, HB3.out⟩
            · show s ≤ lst size sl (n + 1 - 1)
              rw [show n + 1 - 1 = n by omega, HLS.out]; omega
            · intro m m1 m2
              by_cases c : m < n
              · exact HN.out m m1 c
              · obtain rfl : m = n := by omega
                exact HNb.out.2 (by omega)
          case measure => simp [intOf]; omega
    · have HF : Hid (LackP size sl l R 0) := .inl ⟨rfl, fun m m1 m2 => HN.out m m1 (by omega)⟩
      clear hb
      go_wp2_with fail
      go_ret
      exact ⟨SpanC.ret_int (HX.out 0 HF.out), of_alloc HBel.out⟩
end TaskC
end Go.Proofs.Ytpnahhpkaegeeaa

/- Contracts of package task: Fits. -/
set_option linter.unusedVariables false
namespace Go.Proofs.Ytpnahhpkaegeeaa
open Go.RowKit hiding tok
open SpanM SupM SpanC TaskM
open RowsO hiding Tk
namespace TaskC
def fitE (l : List Tk) (size : Int) (sl : List Sp) : Int := if tchk l = 0 then (if chk size sl = 0 then (if tooLong l size then 6 else 0) else chk size sl) else tchk l
noncomputable def fitN (l : List Tk) (size : Int) (sl : List Sp) : Int := if fitE l size sl = 0 then lack size sl l (both l size) else 0
noncomputable def fitB (l : List Tk) (size : Int) (sl : List Sp) : Bool := if fitE l size sl = 0 then fitN l size sl == 0 else false
theorem fitE_zero {l : List Tk} {size : Int} {sl : List Sp} (h : fitE l size sl = 0) : tchk l = 0 ∧ chk size sl = 0 ∧ rndE l = 0 ∧ 1 ≤ rnd l ∧ 1 ≤ both l size ∧ both l size ≤ 50000 := by
  unfold fitE at h
  split at h
  · rename_i hk
    split at h
    · rename_i hc
      split at h
      · simp at h
      · rename_i hn
        unfold tooLong at hn
        have e0 : rndE l = 0 := Classical.byContradiction fun c => hn (.inl c)
        have r1 : 1 ≤ rnd l := by
          rcases rnd_cases (tchk_zero hk).2 with ⟨_, _, r, _⟩ | ⟨e, _⟩
          · exact r
          · omega
        exact ⟨hk, hc, e0, r1, both_pos r1 (chk_zero hc).1, by
          have : ¬ 50000 < both l size := fun c => hn (.inr c)
          omega⟩
    · exact absurd h ‹_›
  · exact absurd h ‹_›
theorem fitE_of {l : List Tk} {size : Int} {sl : List Sp} (h1 : tchk l = 0) (h2 : chk size sl = 0) (h3 : rndE l = 0) (h4 : both l size ≤ 50000) : fitE l size sl = 0 := by
  unfold fitE
  rw [if_pos h1, if_pos h2, if_neg]
  rintro (c | c)
  · exact c h3
  · omega
theorem bothE_zero {l : List Tk} {size : Int} (h : ¬ tooLong l size) : bothE l size = 0 ∧ bothV l size = both l size ∧ both l size ≤ 50000 := by
  have h1 : rndE l = 0 := Classical.byContradiction fun c => h (.inl c)
  have h2 : ¬ 50000 < both l size := fun c => h (.inr c)
  unfold bothE bothV
  rw [if_pos ⟨h1, by omega⟩, if_pos ⟨h1, by omega⟩]
  exact ⟨rfl, rfl, by omega⟩
theorem bothE_long {l : List Tk} {size : Int} (h : tooLong l size) : bothE l size = 6 ∨ (bothE l size = 0 ∧ 50000 < bothV l size ∧ bothV l size ≤ 1099511627776) := by
  unfold bothE bothV
  by_cases c : rndE l = 0 ∧ both l size ≤ 1099511627776
  · rw [if_pos c, if_pos c]
    rcases h with h | h
    · exact absurd c.1 h
    · exact .inr ⟨rfl, h, c.2⟩
  · rw [if_neg c, if_neg c]; exact .inl rfl
set_option maxHeartbeats 800000 in
theorem Fits_any (a sa : Option Addr) (cap scap : Nat) (l : List Tk) (sl : List Sp) (size : Int) (w : World) (hr : Tks w a l) (hq : Sps w sa sl) :
    Calls Try.prog 28 #[.slice a l.length cap, .agg #[.int .i64 size, .slice sa sl.length scap]] w fun e w' => e = .returned (.tuple #[.bool (fitB l size sl), .int .i64 (fitN l size sl), .int .i64 (fitE l size sl)]) ∧ Below w.heap.size w w' := by
  have HC := hid (fun W (h : Below w.heap.size w W) => tcheck_any a cap l W (hr.below h (Nat.le_refl _)))
  by_cases hk : tchk l = 0
  · rw [hk] at HC
    have HS := hid (fun W (h : Below w.heap.size w W) => check_any size sa scap sl W (hq.below h (Nat.le_refl _)))
    by_cases hc : chk size sl = 0
    · rw [hc] at HS
      obtain ⟨s1, s2, s3, s4⟩ := chk_zero hc
      have HR := hid (fun W (h : Below w.heap.size w W) => both_any a sa cap scap l sl size W (hr.below h (Nat.le_refl _)) hk s1 s2)
      by_cases ht : tooLong l size
      · have e1 : fitE l size sl = 6 := by unfold fitE; rw [if_pos hk, if_pos hc, if_pos ht]
        have e2 : fitN l size sl = 0 := by unfold fitN; rw [if_neg (by omega)]
        have e3 : fitB l size sl = false := by unfold fitB; rw [if_neg (by omega)]
        rw [e1, e2, e3]
        have hcase := bothE_long ht
        clear hr hq hk hc ht e1 e2 e3 s4
        generalize bothE l size = E at *
        generalize bothV l size = V at *
        rcases hcase with rfl | ⟨rfl, v1, v2⟩
        all_goals
          go_enter Try.func28, Try.ntmps28
          go_wp2_with (go_at_call 41; refine (HC.out _ (by go_grown)).mono ?_; rintro e w1 ⟨rfl, hb⟩; have HB1 := hid (box1 hb); have c0 : w1.cell? ⟨w.heap.size, 0, none⟩ = some (.int .i64 size) := boxc (box1 hb) 0; have c1 : w1.cell? ⟨w.heap.size, 1, none⟩ = some (.slice sa sl.length scap) := boxc (box1 hb) 1; clear hb)
          refine (HS.out _ (of_alloc HB1.out)).mono ?_
          rintro e w2 ⟨rfl, hb⟩
          have HB2 := hid (box2 HB1.out hb)
          have d0 : w2.cell? ⟨w.heap.size, 0, none⟩ = some (.int .i64 size) := boxc HB2.out 0
          have d1 : w2.cell? ⟨w.heap.size, 1, none⟩ = some (.slice sa sl.length scap) := boxc HB2.out 1
          clear hb c0 c1
          go_wp2_with fail
          refine (HR.out _ (of_alloc HB2.out)).mono ?_
          rintro e w3 ⟨rfl, hb⟩
          have HB3 := hid (box2 HB2.out hb)
          clear hb d0 d1
          go_wp2_with fail
          go_ret3
          exact ⟨rfl, of_alloc HB3.out⟩
      · obtain ⟨b1, b2, b3⟩ := bothE_zero ht
        have e1 : fitE l size sl = 0 := by unfold fitE; rw [if_pos hk, if_pos hc, if_neg ht]
        have e2 : fitN l size sl = lack size sl l (both l size) := by unfold fitN; rw [if_pos e1]
        have e3 : fitB l size sl = (lack size sl l (both l size) == 0) := by unfold fitB; rw [if_pos e1, e2]
        rw [e1, e2, e3]
        rw [b1, b2] at HR
        have p := (fitE_zero e1).2.2.2.2.1
        have HL := hid (fun W (h : Below w.heap.size w W) => lack_any a sa cap scap l sl size (both l size) W (hr.below h (Nat.le_refl _)) (hq.below h (Nat.le_refl _)) hk hc (by omega) b3)
        clear hr hq hk hc ht e1 e2 e3 s4 b1 b2
        generalize lack size sl l (both l size) = X at *
        generalize both l size = V at *
        go_enter Try.func28, Try.ntmps28
        go_wp2_with (go_at_call 41; refine (HC.out _ (by go_grown)).mono ?_; rintro e w1 ⟨rfl, hb⟩; have HB1 := hid (box1 hb); have c0 : w1.cell? ⟨w.heap.size, 0, none⟩ = some (.int .i64 size) := boxc (box1 hb) 0; have c1 : w1.cell? ⟨w.heap.size, 1, none⟩ = some (.slice sa sl.length scap) := boxc (box1 hb) 1; clear hb)
        refine (HS.out _ (of_alloc HB1.out)).mono ?_
        rintro e w2 ⟨rfl, hb⟩
        have HB2 := hid (box2 HB1.out hb)
        have d0 : w2.cell? ⟨w.heap.size, 0, none⟩ = some (.int .i64 size) := boxc HB2.out 0
        have d1 : w2.cell? ⟨w.heap.size, 1, none⟩ = some (.slice sa sl.length scap) := boxc HB2.out 1
        clear hb c0 c1
        go_wp2_with fail
        refine (HR.out _ (of_alloc HB2.out)).mono ?_
        rintro e w3 ⟨rfl, hb⟩
        have HB3 := hid (box2 HB2.out hb)
        have d0' : w3.cell? ⟨w.heap.size, 0, none⟩ = some (.int .i64 size) := boxc HB3.out 0
        have d1' : w3.cell? ⟨w.heap.size, 1, none⟩ = some (.slice sa sl.length scap) := boxc HB3.out 1
        clear hb d0 d1
        go_wp2_with fail
        refine (HL.out _ (of_alloc HB3.out)).mono ?_
        rintro e w4 ⟨rfl, hb⟩
        have HB4 := hid (box2 HB3.out hb)
        clear hb d0' d1'
        go_wp2_with fail
        go_ret3
        exact ⟨rfl, of_alloc HB4.out⟩
    · have e1 : fitE l size sl = chk size sl := by unfold fitE; rw [if_pos hk, if_neg hc]
      have e2 : fitN l size sl = 0 := by unfold fitN; rw [if_neg (by omega)]
      have e3 : fitB l size sl = false := by unfold fitB; rw [if_neg (by omega)]
      rw [e1, e2, e3]
      have hne : (chk size sl != 0) = true := by simp [hc]
      clear hr hq hk hc e1 e2 e3
      generalize chk size sl = c at *
      go_enter Try.func28, Try.ntmps28
      go_wp2_with (go_at_call 41; refine (HC.out _ (by go_grown)).mono ?_; rintro e w1 ⟨rfl, hb⟩; have HB1 := hid (box1 hb); have c0 : w1.cell? ⟨w.heap.size, 0, none⟩ = some (.int .i64 size) := boxc (box1 hb) 0; have c1 : w1.cell? ⟨w.heap.size, 1, none⟩ = some (.slice sa sl.length scap) := boxc (box1 hb) 1; clear hb)
      refine (HS.out _ (of_alloc HB1.out)).mono ?_
      rintro e w2 ⟨rfl, hb⟩
      have HB2 := hid (box2 HB1.out hb)
      clear hb c0 c1
      go_wp2_with fail
      go_ret3
      exact ⟨rfl, of_alloc HB2.out⟩
  · have e1 : fitE l size sl = tchk l := by unfold fitE; rw [if_neg hk]
    have e2 : fitN l size sl = 0 := by unfold fitN; rw [if_neg (by omega)]
    have e3 : fitB l size sl = false := by unfold fitB; rw [if_neg (by omega)]
    rw [e1, e2, e3]
    have hne : (tchk l != 0) = true := by simp [hk]
    clear hr hq hk e1 e2 e3
    generalize tchk l = c at *
    go_enter Try.func28, Try.ntmps28
    go_wp2_with (go_at_call 41; refine (HC.out _ (by go_grown)).mono ?_; rintro e w1 ⟨rfl, hb⟩; have HB1 := hid (box1 hb); clear hb)
    go_ret3
    exact ⟨rfl, of_alloc HB1.out⟩
end TaskC
end Go.Proofs.Ytpnahhpkaegeeaa

/- What is told of tasks and a set, in plain words. -/
set_option linter.unusedVariables false
namespace Go.Proofs.Ytpnahhpkaegeeaa
open Go.RowKit hiding tok
open SpanM SupM SpanC TaskM
open RowsO hiding Tk
namespace TaskC
theorem lack_ex (size : Int) (sl : List Sp) (l : List Tk) (h0 : ¬ Bad size sl l 0) (k : Nat) : (∀ m, 0 ≤ m → m ≤ (k : Int) → ¬ Bad size sl l m) ∨ ∃ v, 1 ≤ v ∧ v ≤ (k : Int) ∧ Bad size sl l v ∧ ∀ m, 0 ≤ m → m < v → ¬ Bad size sl l m := by
  induction k with
  | zero =>
    refine .inl fun m m1 m2 => ?_
    obtain rfl : m = 0 := by omega
    exact h0
  | succ k ih =>
    rcases ih with ih | ⟨v, v1, v2, v3⟩
    · by_cases c : Bad size sl l ((k : Int) + 1)
      · exact .inr ⟨(k : Int) + 1, by omega, by omega, c, fun m m1 m2 => ih m m1 (by omega)⟩
      · refine .inl fun m m1 m2 => ?_
        by_cases c2 : m ≤ k
        · exact ih m m1 c2
        · obtain rfl : m = (k : Int) + 1 := by omega
          exact c
    · exact .inr ⟨v, v1, by omega, v3⟩
theorem lack_spec {size R : Int} {sl : List Sp} {l : List Tk} (h0 : ¬ Bad size sl l 0) (hR : 0 ≤ R) : LackP size sl l R (lack size sl l R) := by
  have : ∃ v, LackP size sl l R v := by
    rcases lack_ex size sl l h0 R.toNat with h | ⟨v, v1, v2, v3⟩
    · exact ⟨0, .inl ⟨rfl, fun m m1 m2 => h m m1 (by omega)⟩⟩
    · exact ⟨v, .inr ⟨v1, by omega, v3⟩⟩
  exact Classical.epsilon_spec (p := LackP size sl l R) this
/-- there is enough for whatever number of times -/
def Fit (l : List Tk) (size : Int) (sl : List Sp) : Prop := ∀ n, 0 ≤ n → ¬ Bad size sl l n
theorem evs_dvd {l : List Tk} {size : Int} (h : ∀ x ∈ l, tok x) (he : rndE l = 0) (hs : 1 ≤ size) : ∀ x ∈ l, x.2.1 ∣ both l size := by
  intro x hx
  have r1 : 1 ≤ rnd l := by
    rcases rnd_cases h with ⟨_, _, r, _⟩ | ⟨e, _⟩
    · exact r
    · omega
  exact Int.dvd_trans (rnd_dvd h he x hx) (both_dvd' r1 hs).1
theorem fit_cases {l : List Tk} {size : Int} {sl : List Sp} (h : fitE l size sl = 0) :
    (fitN l size sl = 0 ∧ fitB l size sl = true ∧ Fit l size sl) ∨
    (1 ≤ fitN l size sl ∧ fitN l size sl ≤ 50000 ∧ fitB l size sl = false ∧ Bad size sl l (fitN l size sl) ∧ ∀ m, 0 ≤ m → m < fitN l size sl → ¬ Bad size sl l m) := by
  obtain ⟨hk, hc, he, r1, b1, b2⟩ := fitE_zero h
  obtain ⟨s1, s2, s3, s4⟩ := chk_zero hc
  obtain ⟨hl, hg⟩ := tchk_zero hk
  have sp := lack_spec (R := both l size) (bad_zero s1 s4 hg) (by omega)
  have e1 : fitN l size sl = lack size sl l (both l size) := by unfold fitN; rw [if_pos h]
  have e2 : fitB l size sl = (fitN l size sl == 0) := by unfold fitB; rw [if_pos h]
  rw [← e1] at sp
  rcases sp with ⟨p1, p2⟩ | ⟨p1, p2, p3, p4⟩
  · exact .inl ⟨p1, by rw [e2, p1]; rfl, fits_round s1 s4 hg b1 (evs_dvd hg he s1) (both_dvd' r1 s1).2 p2⟩
  · exact .inr ⟨p1, by omega, by rw [e2]; simp; omega, p3, p4⟩
theorem fit_err {l : List Tk} {size : Int} {sl : List Sp} (h : fitE l size sl ≠ 0) : fitN l size sl = 0 ∧ fitB l size sl = false := by
  unfold fitB fitN; rw [if_neg h, if_neg h]; exact ⟨rfl, rfl⟩
theorem fit_true {l : List Tk} {size : Int} {sl : List Sp} (h : fitB l size sl = true) : fitE l size sl = 0 ∧ Fit l size sl := by
  by_cases c : fitE l size sl = 0
  · rcases fit_cases c with ⟨_, _, f⟩ | ⟨_, _, f, _⟩
    · exact ⟨c, f⟩
    · rw [f] at h; simp at h
  · rw [(fit_err c).2] at h; simp at h
theorem fit_of {l : List Tk} {size : Int} {sl : List Sp} (h : fitE l size sl = 0) (f : Fit l size sl) : fitB l size sl = true ∧ fitN l size sl = 0 := by
  rcases fit_cases h with ⟨n, b, _⟩ | ⟨p1, _, _, b, _⟩
  · exact ⟨b, n⟩
  · exact absurd b (f _ (by omega))
end TaskC
end Go.Proofs.Ytpnahhpkaegeeaa
