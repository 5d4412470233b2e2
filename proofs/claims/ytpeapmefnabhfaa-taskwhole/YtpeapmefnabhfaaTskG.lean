/- Contracts of package task: Fits. -/
import Derived.Test.YtpeapmefnabhfaaTskF
set_option linter.unusedVariables false
namespace Go.Proofs.Ytpeapmefnabhfaa
open Go.RowKit hiding tok
open SpanM SupM SpanC TaskM
open RowsO hiding Tk
namespace TaskC
def fitE (l : List Tk) (size : Int) (sl : List Sp) : Int := if tchk l = 0 then (if chk size sl = 0 then (if tooLong l size then 6 else 0) else chk size sl) else tchk l
noncomputable def fitN (l : List Tk) (size : Int) (sl : List Sp) : Int := if fitE l size sl = 0 then lack size sl l (both l size) else 0
noncomputable def fitB (l : List Tk) (size : Int) (sl : List Sp) : Bool := if fitE l size sl = 0 then fitN l size sl == 0 else false
theorem fitE_zero {l : List Tk} {size : Int} {sl : List Sp} (h : fitE l size sl = 0) : tchk l = 0 ∧ chk size sl = 0 ∧ rndE l = 0 ∧ 1 ≤ rnd l ∧ 1 ≤ both l size ∧ both l size ≤ 50000 := by
  unfold fitE at h
  split at h
  · rename_i hk
    split at h
    · rename_i hc
      split at h
      · simp at h
      · rename_i hn
        unfold tooLong at hn
        have e0 : rndE l = 0 := Classical.byContradiction fun c => hn (.inl c)
        have r1 : 1 ≤ rnd l := by
          rcases rnd_cases (tchk_zero hk).2 with ⟨_, _, r, _⟩ | ⟨e, _⟩
          · exact r
          · omega
        exact ⟨hk, hc, e0, r1, both_pos r1 (chk_zero hc).1, by
          have : ¬ 50000 < both l size := fun c => hn (.inr c)
          omega⟩
    · exact absurd h ‹_›
  · exact absurd h ‹_›
theorem fitE_of {l : List Tk} {size : Int} {sl : List Sp} (h1 : tchk l = 0) (h2 : chk size sl = 0) (h3 : rndE l = 0) (h4 : both l size ≤ 50000) : fitE l size sl = 0 := by
  unfold fitE
  rw [if_pos h1, if_pos h2, if_neg]
  rintro (c | c)
  · exact c h3
  · omega
theorem bothE_zero {l : List Tk} {size : Int} (h : ¬ tooLong l size) : bothE l size = 0 ∧ bothV l size = both l size ∧ both l size ≤ 50000 := by
  have h1 : rndE l = 0 := Classical.byContradiction fun c => h (.inl c)
  have h2 : ¬ 50000 < both l size := fun c => h (.inr c)
  unfold bothE bothV
  rw [if_pos ⟨h1, by omega⟩, if_pos ⟨h1, by omega⟩]
  exact ⟨rfl, rfl, by omega⟩
theorem bothE_long {l : List Tk} {size : Int} (h : tooLong l size) : bothE l size = 6 ∨ (bothE l size = 0 ∧ 50000 < bothV l size ∧ bothV l size ≤ 1099511627776) := by
  unfold bothE bothV
  by_cases c : rndE l = 0 ∧ both l size ≤ 1099511627776
  · rw [if_pos c, if_pos c]
    rcases h with h | h
    · exact absurd c.1 h
    · exact .inr ⟨rfl, h, c.2⟩
  · rw [if_neg c, if_neg c]; exact .inl rfl
set_option maxHeartbeats 800000 in
theorem Fits_any (a sa : Option Addr) (cap scap : Nat) (l : List Tk) (sl : List Sp) (size : Int) (w : World) (hr : Tks w a l) (hq : Sps w sa sl) :
    Calls Try.prog 18 #[.slice a l.length cap, .agg #[.int .i64 size, .slice sa sl.length scap]] w fun e w' => e = .returned (.tuple #[.bool (fitB l size sl), .int .i64 (fitN l size sl), .int .i64 (fitE l size sl)]) ∧ Below w.heap.size w w' := by
  have HC := hid (fun W (h : Below w.heap.size w W) => tcheck_any a cap l W (hr.below h (Nat.le_refl _)))
  by_cases hk : tchk l = 0
  · rw [hk] at HC
    have HS := hid (fun W (h : Below w.heap.size w W) => check_any size sa scap sl W (hq.below h (Nat.le_refl _)))
    by_cases hc : chk size sl = 0
    · rw [hc] at HS
      obtain ⟨s1, s2, s3, s4⟩ := chk_zero hc
      have HR := hid (fun W (h : Below w.heap.size w W) => both_any a sa cap scap l sl size W (hr.below h (Nat.le_refl _)) hk s1 s2)
      by_cases ht : tooLong l size
      · have e1 : fitE l size sl = 6 := by unfold fitE; rw [if_pos hk, if_pos hc, if_pos ht]
        have e2 : fitN l size sl = 0 := by unfold fitN; rw [if_neg (by omega)]
        have e3 : fitB l size sl = false := by unfold fitB; rw [if_neg (by omega)]
        rw [e1, e2, e3]
        have hcase := bothE_long ht
        clear hr hq hk hc ht e1 e2 e3 s4
        generalize bothE l size = E at *
        generalize bothV l size = V at *
        rcases hcase with rfl | ⟨rfl, v1, v2⟩
        all_goals
          go_enter Try.func18, Try.ntmps18
          go_wp2_with (go_at_call 14; refine (HC.out _ (by go_grown)).mono ?_; rintro e w1 ⟨rfl, hb⟩; have HB1 := hid (box1 hb); have c0 : w1.cell? ⟨w.heap.size, 0, none⟩ = some (.int .i64 size) := boxc (box1 hb) 0; have c1 : w1.cell? ⟨w.heap.size, 1, none⟩ = some (.slice sa sl.length scap) := boxc (box1 hb) 1; clear hb)
          refine (HS.out _ (of_alloc HB1.out)).mono ?_
          rintro e w2 ⟨rfl, hb⟩
          have HB2 := hid (box2 HB1.out hb)
          have d0 : w2.cell? ⟨w.heap.size, 0, none⟩ = some (.int .i64 size) := boxc HB2.out 0
          have d1 : w2.cell? ⟨w.heap.size, 1, none⟩ = some (.slice sa sl.length scap) := boxc HB2.out 1
          clear hb c0 c1
          go_wp2_with fail
          refine (HR.out _ (of_alloc HB2.out)).mono ?_
          rintro e w3 ⟨rfl, hb⟩
          have HB3 := hid (box2 HB2.out hb)
          clear hb d0 d1
          go_wp2_with fail
          go_ret3
          exact ⟨rfl, of_alloc HB3.out⟩
      · obtain ⟨b1, b2, b3⟩ := bothE_zero ht
        have e1 : fitE l size sl = 0 := by unfold fitE; rw [if_pos hk, if_pos hc, if_neg ht]
        have e2 : fitN l size sl = lack size sl l (both l size) := by unfold fitN; rw [if_pos e1]
        have e3 : fitB l size sl = (lack size sl l (both l size) == 0) := by unfold fitB; rw [if_pos e1, e2]
        rw [e1, e2, e3]
        rw [b1, b2] at HR
        have p := (fitE_zero e1).2.2.2.2.1
        have HL := hid (fun W (h : Below w.heap.size w W) => lack_any a sa cap scap l sl size (both l size) W (hr.below h (Nat.le_refl _)) (hq.below h (Nat.le_refl _)) hk hc (by omega) b3)
        clear hr hq hk hc ht e1 e2 e3 s4 b1 b2
        generalize lack size sl l (both l size) = X at *
        generalize both l size = V at *
        go_enter Try.func18, Try.ntmps18
        go_wp2_with (go_at_call 14; refine (HC.out _ (by go_grown)).mono ?_; rintro e w1 ⟨rfl, hb⟩; have HB1 := hid (box1 hb); have c0 : w1.cell? ⟨w.heap.size, 0, none⟩ = some (.int .i64 size) := boxc (box1 hb) 0; have c1 : w1.cell? ⟨w.heap.size, 1, none⟩ = some (.slice sa sl.length scap) := boxc (box1 hb) 1; clear hb)
        refine (HS.out _ (of_alloc HB1.out)).mono ?_
        rintro e w2 ⟨rfl, hb⟩
        have HB2 := hid (box2 HB1.out hb)
        have d0 : w2.cell? ⟨w.heap.size, 0, none⟩ = some (.int .i64 size) := boxc HB2.out 0
        have d1 : w2.cell? ⟨w.heap.size, 1, none⟩ = some (.slice sa sl.length scap) := boxc HB2.out 1
        clear hb c0 c1
        go_wp2_with fail
        refine (HR.out _ (of_alloc HB2.out)).mono ?_
        rintro e w3 ⟨rfl, hb⟩
        have HB3 := hid (box2 HB2.out hb)
        have d0' : w3.cell? ⟨w.heap.size, 0, none⟩ = some (.int .i64 size) := boxc HB3.out 0
        have d1' : w3.cell? ⟨w.heap.size, 1, none⟩ = some (.slice sa sl.length scap) := boxc HB3.out 1
        clear hb d0 d1
        go_wp2_with fail
        refine (HL.out _ (of_alloc HB3.out)).mono ?_
        rintro e w4 ⟨rfl, hb⟩
        have HB4 := hid (box2 HB3.out hb)
        clear hb d0' d1'
        go_wp2_with fail
        go_ret3
        exact ⟨rfl, of_alloc HB4.out⟩
    · have e1 : fitE l size sl = chk size sl := by unfold fitE; rw [if_pos hk, if_neg hc]
      have e2 : fitN l size sl = 0 := by unfold fitN; rw [if_neg (by omega)]
      have e3 : fitB l size sl = false := by unfold fitB; rw [if_neg (by omega)]
      rw [e1, e2, e3]
      have hne : (chk size sl != 0) = true := by simp [hc]
      clear hr hq hk hc e1 e2 e3
      generalize chk size sl = c at *
      go_enter Try.func18, Try.ntmps18
      go_wp2_with (go_at_call 14; refine (HC.out _ (by go_grown)).mono ?_; rintro e w1 ⟨rfl, hb⟩; have HB1 := hid (box1 hb); have c0 : w1.cell? ⟨w.heap.size, 0, none⟩ = some (.int .i64 size) := boxc (box1 hb) 0; have c1 : w1.cell? ⟨w.heap.size, 1, none⟩ = some (.slice sa sl.length scap) := boxc (box1 hb) 1; clear hb)
      refine (HS.out _ (of_alloc HB1.out)).mono ?_
      rintro e w2 ⟨rfl, hb⟩
      have HB2 := hid (box2 HB1.out hb)
      clear hb c0 c1
      go_wp2_with fail
      go_ret3
      exact ⟨rfl, of_alloc HB2.out⟩
  · have e1 : fitE l size sl = tchk l := by unfold fitE; rw [if_neg hk]
    have e2 : fitN l size sl = 0 := by unfold fitN; rw [if_neg (by omega)]
    have e3 : fitB l size sl = false := by unfold fitB; rw [if_neg (by omega)]
    rw [e1, e2, e3]
    have hne : (tchk l != 0) = true := by simp [hk]
    clear hr hq hk e1 e2 e3
    generalize tchk l = c at *
    go_enter Try.func18, Try.ntmps18
    go_wp2_with (go_at_call 14; refine (HC.out _ (by go_grown)).mono ?_; rintro e w1 ⟨rfl, hb⟩; have HB1 := hid (box1 hb); clear hb)
    go_ret3
    exact ⟨rfl, of_alloc HB1.out⟩
end TaskC
end Go.Proofs.Ytpeapmefnabhfaa
