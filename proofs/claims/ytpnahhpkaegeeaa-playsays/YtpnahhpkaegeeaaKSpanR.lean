/- Several texts, one behind the other: SpanR. -/
import Derived.Test.YtpnahhpkaegeeaaPkA
import Derived.Shelf.Abstract
/- Contracts of package dutyref: Between, SetRight, InSpans, CountOf. -/
set_option linter.unusedVariables false
namespace Go.Proofs.Ytpnahhpkaegeeaa
open Go.RowKit
open SpanM
namespace SpanC
theorem between_yes (x lo hi : Int) (w : World) (h1 : lo ≤ x) (h2 : x ≤ hi) :
    Calls Try.prog 18 #[.int .i64 x, .int .i64 lo, .int .i64 hi] w fun e w' => e = .returned (.bool true) ∧ w' = w := by
  go_enter Try.func18, Try.ntmps18
  go_wp2
  go_ret
  exact ⟨rfl, rfl⟩
theorem between_no (x lo hi : Int) (w : World) (h : ¬ (lo ≤ x ∧ x ≤ hi)) :
    Calls Try.prog 18 #[.int .i64 x, .int .i64 lo, .int .i64 hi] w fun e w' => e = .returned (.bool false) ∧ w' = w := by
  by_cases h1 : lo ≤ x
  · have h2 : ¬ x ≤ hi := fun k => h ⟨h1, k⟩
    clear h
    go_enter Try.func18, Try.ntmps18
    go_wp2
    go_ret
    exact ⟨rfl, rfl⟩
  · clear h
    go_enter Try.func18, Try.ntmps18
    go_wp2
    go_ret
    exact ⟨rfl, rfl⟩

theorem right_arg (size : Int) (a : Option Addr) (n cap : Nat) (w : World) (h : ¬ (1 ≤ size ∧ size ≤ 1000000)) :
    Calls Try.prog 16 #[.agg #[.int .i64 size, .slice a n cap]] w fun e w' => e = .returned (.int .i64 1) ∧ Below w.heap.size w w' := by
  go_enter Try.func16, Try.ntmps16
  go_wp2_with (first | (go_at_call 18; go_call (between_yes _ _ _ _) as e w' ⟨rfl, rfl⟩) | (go_at_call 18; go_call (between_no _ _ _ _) as e w' ⟨rfl, rfl⟩))
  go_ret
  exact ⟨rfl, by go_grown⟩
theorem right_large (size : Int) (a : Option Addr) (n cap : Nat) (w : World) (h1 : 1 ≤ size) (h2 : size ≤ 1000000) (h : 200 < n) :
    Calls Try.prog 16 #[.agg #[.int .i64 size, .slice a n cap]] w fun e w' => e = .returned (.int .i64 2) ∧ Below w.heap.size w w' := by
  have hn : (200 : Int) < (n : Int) := by omega
  go_enter Try.func16, Try.ntmps16
  go_wp2_with (first | (go_at_call 18; go_call (between_yes _ _ _ _) as e w' ⟨rfl, rfl⟩) | (go_at_call 18; go_call (between_no _ _ _ _) as e w' ⟨rfl, rfl⟩))
  go_ret
  exact ⟨rfl, by go_grown⟩
set_option maxHeartbeats 800000 in
theorem right_list (size : Int) (a : Option Addr) (cap : Nat) (l : List Sp) (w : World) (h1 : 1 ≤ size) (h2 : size ≤ 1000000) (h : ¬ 200 < l.length) (hr : Sps w a l) :
    Calls Try.prog 16 #[.agg #[.int .i64 size, .slice a l.length cap]] w fun e w' => e = .returned (.int .i64 (chkG size l)) ∧ Below w.heap.size w w' := by
  have hn : ¬ (200 : Int) < (l.length : Int) := by omega
  have HR : Hid (Sps w a l) := hr
  clear hr
  go_enter Try.func16, Try.ntmps16
  go_wp2_with (first | (go_at_call 18; go_call (between_yes _ _ _ _) as e w' ⟨rfl, rfl⟩) | (go_at_call 18; go_call (between_no _ _ _ _) as e w' ⟨rfl, rfl⟩))
  go_loopw [17] (fun v17 wr => ∃ (k : Nat) (E : Int), k ≤ l.length ∧ v17 = .int .i64 k ∧ Hid (good size (-1) l = good size E (l.drop k)) ∧ ((k = 0 ∧ E = -1) ∨ (0 < k ∧ E = (l.getD (k - 1) (0, 0)).2 ∧ 0 ≤ E ∧ E ≤ size)) ∧ Below (w.heap.size + 1) (w.alloc (.cells #[.int .i64 size, .slice a l.length cap] 25)) wr) (fun v17 _ => l.length - (intOf v17).toNat)
  case atStart => exact ⟨0, -1, by omega, rfl, by show _ = _; simp, .inl ⟨rfl, rfl⟩, Below.refl _ _⟩
  case round =>
    obtain ⟨k, E, hk, rfl, hg, hE, hb⟩ := hrel
    have hsz := hb.size
    simp only [World.size_alloc] at hsz
    have hB : Hid _ := hb
    by_cases hlt : k < l.length
    · obtain ⟨b, off, rfl, hbw, d1, d2⟩ := Sps.get HR.out hb k hlt
      have d3 : wr.cell? ⟨w.heap.size, 0, none⟩ = some (.int .i64 size) := (hb.cell (by simp)).trans (World.cell?_alloc_at _ _ _ _ rfl)
      have d4 : wr.cell? ⟨w.heap.size, 1, none⟩ = some (.slice (some ⟨b, off, none⟩) l.length cap) := (hb.cell (by simp)).trans (World.cell?_alloc_at _ _ _ _ rfl)
      have hd := drop_get l k hlt
      have hw1 : b < wr.heap.size := by omega
      have hw2 : w.heap.size < wr.heap.size := by omega
      have hN : ∀ e, (l.getD k (0, 0)).2 = e → 0 ≤ e → e ≤ size → ((k + 1 = 0 ∧ e = -1) ∨ (0 < k + 1 ∧ e = (l.getD (k + 1 - 1) (0, 0)).2 ∧ 0 ≤ e ∧ e ≤ size)) := by
        intro e he h1 h2
        right
        exact ⟨by omega, by rw [← he]; rfl, h1, h2⟩
      have HN : Hid _ := hN
      clear hN
      generalize hz : l.getD k (0, 0) = z at d1 d2 hd
      obtain ⟨f, t⟩ := z
      have Hd : Hid _ := hd
      have Hz : Hid _ := hz
      clear hz hd
      simp only at d1 d2
      have HF4 : Hid (¬ (E < f ∧ f < t ∧ t ≤ size) → chkG size l = 4) := by
        intro ho
        unfold chkG
        rw [if_neg]
        rw [hg.out, Hd.out]
        simp [good]
        intro _ _ _
        omega
      have hbe : Below w.heap.size w wr := of_alloc hB.out
      have C : (E < f ∧ f < t ∧ t ≤ size) ∨ f ≤ E ∨ (E < f ∧ t ≤ f) ∨ (E < f ∧ f < t ∧ size < t) := by omega
      rcases hE with ⟨rfl, rfl⟩ | ⟨hk0, hE1, hE2, hE3⟩
      · clear hb
        simp only [Nat.zero_mul, Nat.add_zero] at d1 d2
        rcases C with ⟨o1, o2, o3⟩ | o1 | ⟨o1, o2⟩ | ⟨o1, o2, o3⟩
        · have o4 : ¬ f < 0 := by omega
          go_wp2_with fail
          go_roundw
          case rel =>
            refine ⟨0 + 1, t, by omega, by go_num, ?_, HN.out t (by rw [Hz.out]) (by omega) (by omega), by have := hB.out; go_grown⟩
            show _ = _
            rw [hg.out, Hd.out]
            simp [good, o1, o2, o3]
          case measure => simp [intOf]; omega
        all_goals
          have HF : Hid (chkG size l = 4) := HF4.out (by omega)
          have o4 : f < 0 ∨ ¬ f < 0 := by omega
          rcases o4 with o4 | o4
          all_goals
            first
            | omega
            | (go_wp2_with fail
               go_ret
               exact ⟨ret_int HF.out.symm, by go_grown⟩)
      · obtain ⟨b', off', eb, hbw', e1, e2⟩ := Sps.get HR.out hb (k - 1) (by omega)
        obtain ⟨rfl, rfl⟩ : b = b' ∧ off = off' := by simpa using eb
        rw [← hE1] at e2
        clear hb e1 eb
        have hE1' : Hid _ := hE1
        clear hE1
        obtain ⟨j, rfl⟩ : ∃ j, k = j + 1 := ⟨k - 1, by omega⟩
        simp only [Nat.add_sub_cancel] at e2
        have hj : (j : Int) + 1 - 1 = (j : Int) := by omega
        rcases C with ⟨o1, o2, o3⟩ | o1 | ⟨o1, o2⟩ | ⟨o1, o2, o3⟩
        · have o4 : ¬ f < E + 1 := by omega
          go_wp2_with fail
          go_roundw
          case rel =>
            refine ⟨j + 1 + 1, t, by omega, by go_num, ?_, HN.out t (by rw [Hz.out]) (by omega) (by omega), by have := hB.out; go_grown⟩
            show _ = _
            rw [hg.out, Hd.out]
            simp [good, o1, o2, o3]
          case measure => simp [intOf]; omega
        · have o4 : f < E + 1 := by omega
          have HF : Hid (chkG size l = 4) := HF4.out (by omega)
          go_wp2_with fail
          go_ret
          exact ⟨ret_int HF.out.symm, by go_grown⟩
        all_goals
          have HF : Hid (chkG size l = 4) := HF4.out (by omega)
          have o4 : ¬ f < E + 1 := by omega
          go_wp2_with fail
          go_ret
          exact ⟨ret_int HF.out.symm, by go_grown⟩
    · have HF : Hid (chkG size l = 0) := by
        show _ = _
        unfold chkG
        rw [if_pos]
        rw [hg.out, List.drop_of_length_le (by omega)]; rfl
      clear hb
      go_wp2_with fail
      go_ret
      exact ⟨ret_int HF.out.symm, of_alloc hB.out⟩
theorem right_any (size : Int) (a : Option Addr) (cap : Nat) (l : List Sp) (w : World) (hr : Sps w a l) :
    Calls Try.prog 16 #[.agg #[.int .i64 size, .slice a l.length cap]] w fun e w' => e = .returned (.int .i64 (chk size l)) ∧ Below w.heap.size w w' := by
  unfold chk
  split
  · split
    · exact right_large size a _ cap w (by omega) (by omega) (by omega)
    · exact right_list size a cap l w (by omega) (by omega) (by omega) hr
  · exact right_arg size a _ cap w (by omega)

theorem inF_any (f e t : Int) (B : Nat) (W : World) (hB : B < W.heap.size) (hc : W.cell? ⟨B, 0, none⟩ = some (.int .i64 t)) :
    Calls Try.prog 77 #[.agg #[.int .i64 f, .int .i64 e], .pointer (some ⟨B, 0, none⟩)] W fun e' w' => e' = .returned (.bool (decide (f ≤ t ∧ t < e))) ∧ Below W.heap.size W w' := by
  have C : (f ≤ t ∧ t < e) ∨ ¬ f ≤ t ∨ (f ≤ t ∧ ¬ t < e) := by omega
  rcases C with ⟨h1, h2⟩ | h1 | ⟨h1, h2⟩
  · rw [decide_eq_true ⟨h1, h2⟩]
    go_enter Try.func77, Try.ntmps77
    go_wp2_with fail
    go_ret
    exact ⟨rfl, by go_grown⟩
  all_goals
    rw [decide_eq_false (by omega)]
    go_enter Try.func77, Try.ntmps77
    go_wp2_with fail
    go_ret
    exact ⟨rfl, by go_grown⟩
theorem mem_take_succ {l : List Sp} {k : Nat} {t : Int} (h : k < l.length) (h0 : mem (l.take k) t = false) : mem (l.take (k + 1)) t = decide ((l.getD k (0, 0)).1 ≤ t ∧ t < (l.getD k (0, 0)).2) := by
  rw [take_snoc l k h, mem_append, h0, mem_cons]; simp
set_option maxHeartbeats 400000 in
theorem indexF_any (a : Option Addr) (cap : Nat) (l : List Sp) (t : Int) (B : Nat) (w : World) (hr : Sps w a l) (hl : l.length ≤ maxLen) (hB : B < w.heap.size) (hc : w.cell? ⟨B, 0, none⟩ = some (.int .i64 t)) :
    Calls Try.prog 92 #[.slice a l.length cap, .func (.func 77) #[] #[.pointer (some ⟨B, 0, none⟩)]] w fun e w' => (∃ i : Int, e = .returned (.int .i64 i) ∧ decide (0 ≤ i) = mem l t) ∧ Below w.heap.size w w' := by
  unfold maxLen at hl
  have HR : Hid (Sps w a l) := hr
  have HC : Hid (∀ W, Below w.heap.size w W → W.cell? ⟨B, 0, none⟩ = some (.int .i64 t)) := fun W hb => (hb.cell hB).trans hc
  clear hr hc
  go_enter Try.func92, Try.ntmps92
  go_wp2_with fail
  go_loopw [8] (fun v8 wr => ∃ (k : Nat), k ≤ l.length ∧ v8 = .int .i64 k ∧ Hid (mem (l.take k) t = false) ∧ Below w.heap.size w wr) (fun v8 _ => l.length - (intOf v8).toNat)
  case atStart => exact ⟨0, by omega, rfl, by show _ = _; simp, Below.refl _ _⟩
  case round =>
    obtain ⟨k, hk, rfl, hg, hb⟩ := hrel
    have hsz := hb.size
    have hB' : Hid _ := hb
    by_cases hlt : k < l.length
    · obtain ⟨b, off, rfl, hbw, d1, d2⟩ := (Sps.below HR.out hb (Nat.le_refl _)).at k hlt
      have hm := mem_take_succ hlt hg.out
      have hmem : l.getD k (0, 0) ∈ l := by simp [List.getD, hlt]
      have hcc := HC.out wr hb
      clear hb
      generalize hz : l.getD k (0, 0) = z at d1 d2 hm hmem
      obtain ⟨f, e⟩ := z
      simp only at d1 d2 hm
      have Hm : Hid _ := hm
      have hmt : (f ≤ t ∧ t < e) → mem l t = true := fun h => (mem_iff _ _).2 ⟨(f, e), hmem, h⟩
      have Hmt : Hid _ := hmt
      have hin := inF_any f e t B wr (by omega) hcc
      have hsp : decide (f ≤ t ∧ t < e) = true ∨ decide (f ≤ t ∧ t < e) = false := by cases decide (f ≤ t ∧ t < e) <;> simp
      have hdd : decide (f ≤ t ∧ t < e) = true → (f ≤ t ∧ t < e) := fun h => by simpa using h
      generalize decide (f ≤ t ∧ t < e) = D at hin hsp hdd Hm
      have HIN : Hid _ := hin
      have HDD : Hid _ := hdd
      clear hz hm hmt hin hmem hdd hcc
      rcases hsp with rfl | rfl
      · have HX : Hid (mem l t = true) := Hmt.out (HDD.out rfl)
        go_wp2_with (go_at_call 77; refine Calls.mono HIN.out ?_; rintro e' w' ⟨rfl, hb'⟩)
        go_ret
        exact ⟨⟨_, rfl, by rw [HX.out]; simp⟩, bel_of hB'.out hb'⟩
      · go_wp2_with (go_at_call 77; refine Calls.mono HIN.out ?_; rintro e' w' ⟨rfl, hb'⟩)
        go_roundw
        case rel => exact ⟨k + 1, by omega, by go_num, Hm, bel_of hB'.out hb'⟩
        case measure => simp [intOf]; omega
    · have HF : Hid (mem l t = false) := by
        show _ = _
        have := hg.out
        rwa [List.take_of_length_le (by omega)] at this
      clear hb
      go_wp2_with fail
      go_ret
      exact ⟨⟨_, rfl, by rw [HF.out]; simp⟩, hB'.out⟩
theorem containsF_any (a : Option Addr) (cap : Nat) (l : List Sp) (t : Int) (B : Nat) (w : World) (hr : Sps w a l) (hl : l.length ≤ maxLen) (hB : B < w.heap.size) (hc : w.cell? ⟨B, 0, none⟩ = some (.int .i64 t)) :
    Calls Try.prog 76 #[.slice a l.length cap, .func (.func 77) #[] #[.pointer (some ⟨B, 0, none⟩)]] w fun e w' => e = .returned (.bool (mem l t)) ∧ Below w.heap.size w w' := by
  have HI : Hid _ := indexF_any a cap l t B w hr hl hB hc
  generalize mem l t = M at HI ⊢
  clear hr hc
  go_enter Try.func76, Try.ntmps76
  go_wp2_with (go_at_call 92; refine Calls.mono HI.out ?_; rintro e w' ⟨⟨i, rfl, hi⟩, hb⟩; have hi' : Hid _ := hi; clear hi)
  go_ret
  exact ⟨by rw [← hi'.out]; rfl, hb⟩
theorem inSpans_any (a : Option Addr) (cap : Nat) (l : List Sp) (t : Int) (w : World) (hr : Sps w a l) (hl : l.length ≤ maxLen) :
    Calls Try.prog 54 #[.slice a l.length cap, .int .i64 t] w fun e w' => e = .returned (.bool (mem l t)) ∧ Below w.heap.size w w' := by
  have HI : Hid _ := containsF_any a cap l t w.heap.size (w.alloc (.cells #[.int .i64 t] 3)) (hr.below (Below.alloc (Below.refl _ _) (Nat.le_refl _) _) (Nat.le_refl _)) hl (by simp) (World.cell?_alloc_at _ _ _ _ rfl)
  generalize mem l t = M at HI ⊢
  clear hr
  go_enter Try.func54, Try.ntmps54
  go_wp2_with (go_at_call 76; refine Calls.mono HI.out ?_; rintro e w' ⟨rfl, hb⟩)
  go_ret
  exact ⟨rfl, of_alloc (by simpa using hb)⟩
theorem cb_le2 {size t : Int} {l : List Sp} (h1 : 1 ≤ size) (h2 : size ≤ 1000000) (h3 : good size (-1) l = true) (ht : 0 ≤ t) (ht2 : t ≤ 2199023255552) : 0 ≤ cb size l t ∧ cb size l t ≤ 5000000000000 := by
  obtain ⟨q1, q2, q3, q4, q5, q6, q7, q8⟩ := cb_bd h1 h3 ht
  unfold cb
  omega
set_option maxHeartbeats 800000 in
theorem countOf_any (size t : Int) (a : Option Addr) (cap : Nat) (l : List Sp) (w : World) (hr : Sps w a l) (hk : chk size l = 0) (ht : 0 ≤ t) (ht2 : t ≤ 2199023255552) :
    Calls Try.prog 81 #[.agg #[.int .i64 size, .slice a l.length cap], .int .i64 t] w fun e w' => e = .returned (.int .i64 (cb size l t)) ∧ Below w.heap.size w w' := by
  obtain ⟨s1, s2, s3, s4⟩ := chk_zero hk
  have HG : Hid (∀ x ∈ l, -1 < x.1 ∧ x.1 < x.2 ∧ x.2 ≤ size) := good_each s4
  have HS : Hid (good size (-1) l = true) := s4
  have HR : Hid (Sps w a l) := hr
  clear hr hk s4
  go_enter Try.func81, Try.ntmps81
  go_wp2_with fail
  go_loopw [5, 13] (fun v5 v13 wr => ∃ (k : Nat) (c : Int), k ≤ l.length ∧ v5 = .int .i64 c ∧ v13 = .int .i64 k ∧ Hid (c = cb size (l.take k) t) ∧ 0 ≤ c ∧ c ≤ 5000000000000 ∧ Below (w.heap.size + 1) (w.alloc (.cells #[.int .i64 size, .slice a l.length cap] 25)) wr) (fun _ v13 _ => l.length - (intOf v13).toNat)
  case atStart => exact ⟨0, 0, by omega, rfl, rfl, by show _ = _; simp [cb, cnt], by omega, by omega, Below.refl _ _⟩
  case round =>
    obtain ⟨k, c, hk, rfl, rfl, hc, c1, c2, hb⟩ := hrel
    have hsz := hb.size
    simp only [World.size_alloc] at hsz
    have hB : Hid _ := hb
    by_cases hlt : k < l.length
    · obtain ⟨b, off, rfl, hbw, d1, d2⟩ := Sps.get HR.out hb k hlt
      have d3 : wr.cell? ⟨w.heap.size, 0, none⟩ = some (.int .i64 size) := (hb.cell (by simp)).trans (World.cell?_alloc_at _ _ _ _ rfl)
      have hw2 : w.heap.size < wr.heap.size := by omega
      have hge := HG.out (l.getD k (0, 0)) (by simp [List.getD, hlt])
      have hbd := cb_le2 s1 s2 (good_take HS.out (k + 1)) ht ht2
      have hd := take_snoc l k hlt
      clear hb
      generalize hz : l.getD k (0, 0) = z at d1 d2 hd hge
      obtain ⟨f, e⟩ := z
      simp only at d1 d2 hge
      obtain ⟨g1, g2, g3⟩ := hge
      have hsn := cb_snoc (l := l.take k) (x := (f, e)) s1 (by simp only; omega) (by simp only; omega) (by simp only; omega) ht
      rw [← hd, ← hc.out] at hsn
      rw [hsn] at hbd
      have hwb := whole_bd (x := (f, e)) s1 (by simp only; omega) (by simp only; omega) (by simp only; omega) ht
      have hwe : whole size t (f, e) = if e ≤ t then (t - e) / size + 1 else 0 := rfl
      simp only at hsn hbd hwb hwe
      generalize whole size t (f, e) = W at hsn hbd hwb hwe
      obtain ⟨w1, w2, w3, w4, w5, w6⟩ := hwb
      obtain ⟨x1, x2⟩ := hbd
      have HSN : Hid _ := hsn
      clear hz hd hsn
      by_cases ho : e ≤ t
      · rw [if_pos ho] at hwe
        have q0 : 0 ≤ (t - e) / size := Int.ediv_nonneg (by omega) (by omega)
        have q1 : (t - e) / size ≤ t - e := Int.ediv_le_self _ (by omega)
        subst hwe
        by_cases hk2 : f < t - ((t - e) / size + 1) * size
        · go_wp2_with fail
          go_roundw
          case rel => exact ⟨k + 1, _, by omega, rfl, by go_num, by show _ = _; rw [HSN.out]; omega, by omega, by omega, by have := hB.out; go_grown⟩
          case measure => simp [intOf]; omega
        · go_wp2_with fail
          go_roundw
          case rel => exact ⟨k + 1, _, by omega, rfl, by go_num, by show _ = _; rw [HSN.out]; omega, by omega, by omega, by have := hB.out; go_grown⟩
          case measure => simp [intOf]; omega
      · rw [if_neg ho] at hwe
        subst hwe
        simp only [Int.zero_mul, Int.sub_zero, Int.add_zero] at *
        by_cases hk2 : f < t
        · go_wp2_with fail
          go_roundw
          case rel => exact ⟨k + 1, _, by omega, rfl, by go_num, by show _ = _; rw [HSN.out]; omega, by omega, by omega, by have := hB.out; go_grown⟩
          case measure => simp [intOf]; omega
        · go_wp2_with fail
          go_roundw
          case rel => exact ⟨k + 1, _, by omega, rfl, by go_num, by show _ = _; rw [HSN.out]; omega, by omega, by omega, by have := hB.out; go_grown⟩
          case measure => simp [intOf]; omega
    · have HF : Hid (c = cb size l t) := by
        show _ = _
        rw [hc.out, List.take_of_length_le (by omega)]
      clear hb
      go_wp2_with fail
      go_ret
      exact ⟨ret_int HF.out, of_alloc hB.out⟩
end SpanC
end Go.Proofs.Ytpnahhpkaegeeaa
