/- Several texts, one behind the other: SupR. -/
import Derived.Test.YtpnahhpkaegeeaaPkH
import Derived.Test.YtpnahhpkaegeeaaKSpanQ
import Derived.Shelf.Abstract
/- Contracts of package dutyref that supply's statements need: Between, SetRight, CountOf, EdgesOf. -/
set_option linter.unusedVariables false
namespace Go.Proofs.Ytpnahhpkaegeeaa
open Go.RowKit Go.Shelf
open SpanM SupM
namespace SpanC
theorem between_yes (x lo hi : Int) (w : World) (h1 : lo ≤ x) (h2 : x ≤ hi) :
    Calls Try.prog 18 #[.int .i64 x, .int .i64 lo, .int .i64 hi] w fun e w' => e = .returned (.bool true) ∧ w' = w := by
  go_enter Try.func18, Try.ntmps18
  go_wp2
  go_ret
  exact ⟨rfl, rfl⟩
theorem between_no (x lo hi : Int) (w : World) (h : ¬ (lo ≤ x ∧ x ≤ hi)) :
    Calls Try.prog 18 #[.int .i64 x, .int .i64 lo, .int .i64 hi] w fun e w' => e = .returned (.bool false) ∧ w' = w := by
  by_cases h1 : lo ≤ x
  · have h2 : ¬ x ≤ hi := fun k => h ⟨h1, k⟩
    clear h
    go_enter Try.func18, Try.ntmps18
    go_wp2
    go_ret
    exact ⟨rfl, rfl⟩
  · clear h
    go_enter Try.func18, Try.ntmps18
    go_wp2
    go_ret
    exact ⟨rfl, rfl⟩

theorem right_arg (size : Int) (a : Option Addr) (n cap : Nat) (w : World) (h : ¬ (1 ≤ size ∧ size ≤ 1000000)) :
    Calls Try.prog 16 #[.agg #[.int .i64 size, .slice a n cap]] w fun e w' => e = .returned (.int .i64 1) ∧ Below w.heap.size w w' := by
  go_enter Try.func16, Try.ntmps16
  go_wp2_with (first | (go_at_call 18; go_call (between_yes _ _ _ _) as e w' ⟨rfl, rfl⟩) | (go_at_call 18; go_call (between_no _ _ _ _) as e w' ⟨rfl, rfl⟩))
  go_ret
  exact ⟨rfl, by go_grown⟩
theorem right_large (size : Int) (a : Option Addr) (n cap : Nat) (w : World) (h1 : 1 ≤ size) (h2 : size ≤ 1000000) (h : 200 < n) :
    Calls Try.prog 16 #[.agg #[.int .i64 size, .slice a n cap]] w fun e w' => e = .returned (.int .i64 2) ∧ Below w.heap.size w w' := by
  have hn : (200 : Int) < (n : Int) := by omega
  go_enter Try.func16, Try.ntmps16
  go_wp2_with (first | (go_at_call 18; go_call (between_yes _ _ _ _) as e w' ⟨rfl, rfl⟩) | (go_at_call 18; go_call (between_no _ _ _ _) as e w' ⟨rfl, rfl⟩))
  go_ret
  exact ⟨rfl, by go_grown⟩
set_option maxHeartbeats 800000 in
theorem right_list (size : Int) (a : Option Addr) (cap : Nat) (l : List Sp) (w : World) (h1 : 1 ≤ size) (h2 : size ≤ 1000000) (h : ¬ 200 < l.length) (hr : Sps w a l) :
    Calls Try.prog 16 #[.agg #[.int .i64 size, .slice a l.length cap]] w fun e w' => e = .returned (.int .i64 (chkG size l)) ∧ Below w.heap.size w w' := by
  have hn : ¬ (200 : Int) < (l.length : Int) := by omega
  have HR : Hid (Sps w a l) := hr
  clear hr
  go_enter Try.func16, Try.ntmps16
  go_wp2_with (first | (go_at_call 18; go_call (between_yes _ _ _ _) as e w' ⟨rfl, rfl⟩) | (go_at_call 18; go_call (between_no _ _ _ _) as e w' ⟨rfl, rfl⟩))
  go_loopw [17] (fun v17 wr => ∃ (k : Nat) (E : Int), k ≤ l.length ∧ v17 = .int .i64 k ∧ Hid (good size (-1) l = good size E (l.drop k)) ∧ ((k = 0 ∧ E = -1) ∨ (0 < k ∧ E = (l.getD (k - 1) (0, 0)).2 ∧ 0 ≤ E ∧ E ≤ size)) ∧ Below (w.heap.size + 1) (w.alloc (.cells #[.int .i64 size, .slice a l.length cap] 25)) wr) (fun v17 _ => l.length - (intOf v17).toNat)
  case atStart => exact ⟨0, -1, by omega, rfl, by show _ = _; simp, .inl ⟨rfl, rfl⟩, Below.refl _ _⟩
  case round =>
    obtain ⟨k, E, hk, rfl, hg, hE, hb⟩ := hrel
    have hsz := hb.size
    simp only [World.size_alloc] at hsz
    have hB : Hid _ := hb
    by_cases hlt : k < l.length
    · obtain ⟨b, off, rfl, hbw, d1, d2⟩ := Sps.get HR.out hb k hlt
      have d3 : wr.cell? ⟨w.heap.size, 0, none⟩ = some (.int .i64 size) := (hb.cell (by simp)).trans (World.cell?_alloc_at _ _ _ _ rfl)
      have d4 : wr.cell? ⟨w.heap.size, 1, none⟩ = some (.slice (some ⟨b, off, none⟩) l.length cap) := (hb.cell (by simp)).trans (World.cell?_alloc_at _ _ _ _ rfl)
      have hd := drop_get l k hlt
      have hw1 : b < wr.heap.size := by omega
      have hw2 : w.heap.size < wr.heap.size := by omega
      have hN : ∀ e, (l.getD k (0, 0)).2 = e → 0 ≤ e → e ≤ size → ((k + 1 = 0 ∧ e = -1) ∨ (0 < k + 1 ∧ e = (l.getD (k + 1 - 1) (0, 0)).2 ∧ 0 ≤ e ∧ e ≤ size)) := by
        intro e he h1 h2
        right
        exact ⟨by omega, by rw [← he]; rfl, h1, h2⟩
      have HN : Hid _ := hN
      clear hN
      generalize hz : l.getD k (0, 0) = z at d1 d2 hd
      obtain ⟨f, t⟩ := z
      have Hd : Hid _ := hd
      have Hz : Hid _ := hz
      clear hz hd
      simp only at d1 d2
      have HF4 : Hid (¬ (E < f ∧ f < t ∧ t ≤ size) → chkG size l = 4) := by
        intro ho
        unfold chkG
        rw [if_neg]
        rw [hg.out, Hd.out]
        simp [good]
        intro _ _ _
        omega
      have hbe : Below w.heap.size w wr := of_alloc hB.out
      have C : (E < f ∧ f < t ∧ t ≤ size) ∨ f ≤ E ∨ (E < f ∧ t ≤ f) ∨ (E < f ∧ f < t ∧ size < t) := by omega
      rcases hE with ⟨rfl, rfl⟩ | ⟨hk0, hE1, hE2, hE3⟩
      · clear hb
        simp only [Nat.zero_mul, Nat.add_zero] at d1 d2
        rcases C with ⟨o1, o2, o3⟩ | o1 | ⟨o1, o2⟩ | ⟨o1, o2, o3⟩
        · have o4 : ¬ f < 0 := by omega
          go_wp2_with fail
          go_roundw
          case rel =>
            refine ⟨0 + 1, t, by omega, by go_num, ?_, HN.out t (by rw [Hz.out]) (by omega) (by omega), by have := hB.out; go_grown⟩
            show _ = _
            rw [hg.out, Hd.out]
            simp [good, o1, o2, o3]
          case measure => simp [intOf]; omega
        all_goals
          have HF : Hid (chkG size l = 4) := HF4.out (by omega)
          have o4 : f < 0 ∨ ¬ f < 0 := by omega
          rcases o4 with o4 | o4
          all_goals
            first
            | omega
            | (go_wp2_with fail
               go_ret
               exact ⟨ret_int HF.out.symm, by go_grown⟩)
      · obtain ⟨b', off', eb, hbw', e1, e2⟩ := Sps.get HR.out hb (k - 1) (by omega)
        obtain ⟨rfl, rfl⟩ : b = b' ∧ off = off' := by simpa using eb
        rw [← hE1] at e2
        clear hb e1 eb
        have hE1' : Hid _ := hE1
        clear hE1
        obtain ⟨j, rfl⟩ : ∃ j, k = j + 1 := ⟨k - 1, by omega⟩
        simp only [Nat.add_sub_cancel] at e2
        have hj : (j : Int) + 1 - 1 = (j : Int) := by omega
        rcases C with ⟨o1, o2, o3⟩ | o1 | ⟨o1, o2⟩ | ⟨o1, o2, o3⟩
        · have o4 : ¬ f < E + 1 := by omega
          go_wp2_with fail
          go_roundw
          case rel =>
            refine ⟨j + 1 + 1, t, by omega, by go_num, ?_, HN.out t (by rw [Hz.out]) (by omega) (by omega), by have := hB.out; go_grown⟩
            show _ = _
            rw [hg.out, Hd.out]
            simp [good, o1, o2, o3]
          case measure => simp [intOf]; omega
        · have o4 : f < E + 1 := by omega
          have HF : Hid (chkG size l = 4) := HF4.out (by omega)
          go_wp2_with fail
          go_ret
          exact ⟨ret_int HF.out.symm, by go_grown⟩
        all_goals
          have HF : Hid (chkG size l = 4) := HF4.out (by omega)
          have o4 : ¬ f < E + 1 := by omega
          go_wp2_with fail
          go_ret
          exact ⟨ret_int HF.out.symm, by go_grown⟩
    · have HF : Hid (chkG size l = 0) := by
        show _ = _
        unfold chkG
        rw [if_pos]
        rw [hg.out, List.drop_of_length_le (by omega)]; rfl
      clear hb
      go_wp2_with fail
      go_ret
      exact ⟨ret_int HF.out.symm, of_alloc hB.out⟩
theorem right_any (size : Int) (a : Option Addr) (cap : Nat) (l : List Sp) (w : World) (hr : Sps w a l) :
    Calls Try.prog 16 #[.agg #[.int .i64 size, .slice a l.length cap]] w fun e w' => e = .returned (.int .i64 (chk size l)) ∧ Below w.heap.size w w' := by
  unfold chk
  split
  · split
    · exact right_large size a _ cap w (by omega) (by omega) (by omega)
    · exact right_list size a cap l w (by omega) (by omega) (by omega) hr
  · exact right_arg size a _ cap w (by omega)
theorem cb_le2 {size t : Int} {l : List Sp} (h1 : 1 ≤ size) (h2 : size ≤ 1000000) (h3 : good size (-1) l = true) (ht : 0 ≤ t) (ht2 : t ≤ 2199023255552) : 0 ≤ cb size l t ∧ cb size l t ≤ 5000000000000 := by
  obtain ⟨q1, q2, q3, q4, q5, q6, q7, q8⟩ := cb_bd h1 h3 ht
  unfold cb
  omega
set_option maxHeartbeats 800000 in
theorem countOf_any (size t : Int) (a : Option Addr) (cap : Nat) (l : List Sp) (w : World) (hr : Sps w a l) (hk : chk size l = 0) (ht : 0 ≤ t) (ht2 : t ≤ 2199023255552) :
    Calls Try.prog 81 #[.agg #[.int .i64 size, .slice a l.length cap], .int .i64 t] w fun e w' => e = .returned (.int .i64 (cb size l t)) ∧ Below w.heap.size w w' := by
  obtain ⟨s1, s2, s3, s4⟩ := chk_zero hk
  have HG : Hid (∀ x ∈ l, -1 < x.1 ∧ x.1 < x.2 ∧ x.2 ≤ size) := good_each s4
  have HS : Hid (good size (-1) l = true) := s4
  have HR : Hid (Sps w a l) := hr
  clear hr hk s4
  go_enter Try.func81, Try.ntmps81
  go_wp2_with fail
  go_loopw [5, 13] (fun v5 v13 wr => ∃ (k : Nat) (c : Int), k ≤ l.length ∧ v5 = .int .i64 c ∧ v13 = .int .i64 k ∧ Hid (c = cb size (l.take k) t) ∧ 0 ≤ c ∧ c ≤ 5000000000000 ∧ Below (w.heap.size + 1) (w.alloc (.cells #[.int .i64 size, .slice a l.length cap] 25)) wr) (fun _ v13 _ => l.length - (intOf v13).toNat)
  case atStart => exact ⟨0, 0, by omega, rfl, rfl, by show _ = _; simp [cb, cnt], by omega, by omega, Below.refl _ _⟩
  case round =>
    obtain ⟨k, c, hk, rfl, rfl, hc, c1, c2, hb⟩ := hrel
    have hsz := hb.size
    simp only [World.size_alloc] at hsz
    have hB : Hid _ := hb
    by_cases hlt : k < l.length
    · obtain ⟨b, off, rfl, hbw, d1, d2⟩ := Sps.get HR.out hb k hlt
      have d3 : wr.cell? ⟨w.heap.size, 0, none⟩ = some (.int .i64 size) := (hb.cell (by simp)).trans (World.cell?_alloc_at _ _ _ _ rfl)
      have hw2 : w.heap.size < wr.heap.size := by omega
      have hge := HG.out (l.getD k (0, 0)) (by simp [List.getD, hlt])
      have hbd := cb_le2 s1 s2 (good_take HS.out (k + 1)) ht ht2
      have hd := take_snoc l k hlt
      clear hb
      generalize hz : l.getD k (0, 0) = z at d1 d2 hd hge
      obtain ⟨f, e⟩ := z
      simp only at d1 d2 hge
      obtain ⟨g1, g2, g3⟩ := hge
      have hsn := cb_snoc (l := l.take k) (x := (f, e)) s1 (by simp only; omega) (by simp only; omega) (by simp only; omega) ht
      rw [← hd, ← hc.out] at hsn
      rw [hsn] at hbd
      have hwb := whole_bd (x := (f, e)) s1 (by simp only; omega) (by simp only; omega) (by simp only; omega) ht
      have hwe : whole size t (f, e) = if e ≤ t then (t - e) / size + 1 else 0 := rfl
      simp only at hsn hbd hwb hwe
      generalize whole size t (f, e) = W at hsn hbd hwb hwe
      obtain ⟨w1, w2, w3, w4, w5, w6⟩ := hwb
      obtain ⟨x1, x2⟩ := hbd
      have HSN : Hid _ := hsn
      clear hz hd hsn
      by_cases ho : e ≤ t
      · rw [if_pos ho] at hwe
        have q0 : 0 ≤ (t - e) / size := Int.ediv_nonneg (by omega) (by omega)
        have q1 : (t - e) / size ≤ t - e := Int.ediv_le_self _ (by omega)
        subst hwe
        by_cases hk2 : f < t - ((t - e) / size + 1) * size
        · go_wp2_with fail
          go_roundw
          case rel => exact ⟨k + 1, _, by omega, rfl, by go_num, by show _ = _; rw [HSN.out]; omega, by omega, by omega, by have := hB.out; go_grown⟩
          case measure => simp [intOf]; omega
        · go_wp2_with fail
          go_roundw
          case rel => exact ⟨k + 1, _, by omega, rfl, by go_num, by show _ = _; rw [HSN.out]; omega, by omega, by omega, by have := hB.out; go_grown⟩
          case measure => simp [intOf]; omega
      · rw [if_neg ho] at hwe
        subst hwe
        simp only [Int.zero_mul, Int.sub_zero, Int.add_zero] at *
        by_cases hk2 : f < t
        · go_wp2_with fail
          go_roundw
          case rel => exact ⟨k + 1, _, by omega, rfl, by go_num, by show _ = _; rw [HSN.out]; omega, by omega, by omega, by have := hB.out; go_grown⟩
          case measure => simp [intOf]; omega
        · go_wp2_with fail
          go_roundw
          case rel => exact ⟨k + 1, _, by omega, rfl, by go_num, by show _ = _; rw [HSN.out]; omega, by omega, by omega, by have := hB.out; go_grown⟩
          case measure => simp [intOf]; omega
    · have HF : Hid (c = cb size l t) := by
        show _ = _
        rw [hc.out, List.take_of_length_le (by omega)]
      clear hb
      go_wp2_with fail
      go_ret
      exact ⟨ret_int HF.out, of_alloc hB.out⟩
/-- lists of spans, as they are handed on to EdgesOf -/
def Lists (w : World) (B : Nat) (ls : List (Option Addr × Nat × List Sp)) : Prop :=
  ∀ i x, ls[i]? = some x → w.cell? ⟨B, i, none⟩ = some (.slice x.1 x.2.2.length x.2.1) ∧ Sps w x.1 x.2.2
def allOf (ls : List (Option Addr × Nat × List Sp)) : List Sp := ls.flatMap fun x => x.2.2
theorem allOf_snoc (ls : List (Option Addr × Nat × List Sp)) (x : Option Addr × Nat × List Sp) : allOf (ls ++ [x]) = allOf ls ++ x.2.2 := by simp [allOf]
theorem Lists.below {w w' : World} {B : Nat} {ls : List (Option Addr × Nat × List Sp)} (h : Lists w B ls) (hb : Below w.heap.size w w') : Lists w' B ls := by
  intro i x hx
  obtain ⟨h1, h2⟩ := h i x hx
  exact ⟨(hb.cell (World.block_lt_of_cell? w _ h1)).trans h1, h2.below hb (Nat.le_refl _)⟩
set_option maxRecDepth 20000 in
set_option maxHeartbeats 1000000 in
theorem edgesOf_any (B c : Nat) (ls : List (Option Addr × Nat × List Sp)) (w : World) (h : Lists w B ls) (hl : (allOf ls).length ≤ 4000000) (hn : ls.length ≤ 2) :
    Calls Try.prog 97 #[.slice (some ⟨B, 0, none⟩) ls.length c] w fun e w' => (∃ v, e = .returned v ∧ OwnI w' w.heap.size v (edges (allOf ls))) ∧ Below w.heap.size w w' := by
  obtain ⟨i0, hi, hz0, hz1, hz2⟩ := info_parts infoInt
  have Hi := hid hi
  have Hz0 := hid hz0
  have Hz1 := hid hz1
  have Hz2 := hid hz2
  have HL := hid hl
  have HS := hid h
  clear hi hz0 hz1 hz2 hl h
  go_enter Try.func97, Try.ntmps97
  go_wp2_with fail
  go_loopw [3, 10] (fun v3 v10 wr => ∃ k : Nat, k ≤ ls.length ∧ v10 = .int .i64 k ∧ OwnI wr w.heap.size v3 (edges (allOf (ls.take k))) ∧ Below w.heap.size w wr) (fun _ v10 _ => ls.length - (intOf v10).toNat)
  case atStart => exact ⟨0, by omega, rfl, World.ownsRow_nil _ _ _ _, Below.refl _ _⟩
  case round =>
    obtain ⟨k, hk, rfl, ho, hb⟩ := hrel
    have HO := hid ho
    have HB := hid hb
    obtain ⟨p3, n3, c3, hv3⟩ := ho.slice
    subst hv3
    by_cases hlt : k < ls.length
    · obtain ⟨x, hx⟩ : ∃ x, ls[k]? = some x := ⟨_, List.getElem?_eq_getElem hlt⟩
      obtain ⟨q1, q2⟩ := HS.out.below hb k x hx
      have hts : ls.take (k + 1) = ls.take k ++ [x] := by
        obtain ⟨h1, rfl⟩ := List.getElem?_eq_some_iff.1 hx
        exact List.take_succ_eq_append_getElem h1
      have hbd : (allOf (ls.take k)).length + x.2.2.length ≤ 4000000 := by
        have h1 : (allOf (ls.take (k + 1))).length ≤ (allOf ls).length := by
          have : allOf ls = allOf (ls.take (k + 1)) ++ allOf (ls.drop (k + 1)) := by
            unfold allOf; rw [← List.flatMap_append, List.take_append_drop]
          rw [this]; simp
        rw [hts, allOf_snoc, List.length_append] at h1
        have := HL.out
        omega
      obtain ⟨ax, cx, lx⟩ := x
      simp only at q1 q2 hbd
      have HBD := hid hbd
      have HTS := hid hts
      have Q2 := hid (HS.out k _ hx).2
      clear ho hb hbd hts q2 hx
      generalize hP : allOf (ls.take k) = P at *
      have HP := hid hP
      clear hP
      go_wp2_with fail
      go_loopw [3, 16] (fun v3 v16 ws => ∃ j : Nat, j ≤ lx.length ∧ v16 = .int .i64 j ∧ OwnI ws w.heap.size v3 (edges P ++ edges (lx.take j)) ∧ Below w.heap.size w ws ∧ True) (fun _ v16 _ => lx.length - (intOf v16).toNat)
      case atStart => exact ⟨0, by omega, rfl, by simpa [edges] using HO.out, HB.out, trivial⟩
      case round =>
        obtain ⟨j, hj, rfl, hos, hbs, hbr⟩ := hrel
        have HOS := hid hos
        have HBS := hid hbs
        have hsz := hbs.size
        obtain ⟨p4, n4, c4, hv4⟩ := hos.slice
        subst hv4
        by_cases hjl : j < lx.length
        · obtain ⟨b, off, rfl, hbw, d1, d2⟩ := (Q2.out.below hbs (Nat.le_refl _)).at j hjl
          have hd := take_snoc lx j hjl
          generalize lx.getD j (0, 0) = z at d1 d2 hd
          obtain ⟨f, t⟩ := z
          simp only at d1 d2
          have HE : Hid (edges P ++ edges (lx.take (j + 1)) = (edges P ++ edges (lx.take j)) ++ [f, t]) := by
            show _ = _
            rw [hd, edges_append]; simp [edges]
          have HN : Hid ((edges P ++ edges (lx.take j)).length ≤ 8000000) := by
            show _ ≤ _
            have := HBD.out
            rw [List.length_append, edges_length, edges_length, List.length_take]
            omega
          clear hd hos hbs hbr
          have HJL := hid hjl
          have hjb : (j : Int) ≤ 4000000 := by have := HBD.out; omega
          generalize edges P ++ edges (lx.take j) = Z at *
          go_wp2_with (at_builtin; refine wpList_append_own _ rfl _ _ 26 rfl w.heap.size 3 i0 (.int .i64 0) 1 8 Try.underlying26 Hi.out Hz0.out Hz1.out Hz2.out rfl (by decide) _ Z.length (Z.map (Value.int .i64)) rfl ?qc0 ⟨wr.heap.size + 1, 0, none⟩ 2 2 [.int .i64 f, .int .i64 t] ?qcx ?qc1 ?qc2 ?qc3 ?qc4 ?qc5 ?qc6 ?_)
          case qc0 => exact World.ownsRow.alloc (World.ownsRow.alloc HOS.out _) _
          case qcx => rfl
          case qc1 => simp
          case qc2 =>
            intro i u hi
            match i, hi with
            | 0, hi => simp at hi; subst hi; exact World.cell?_alloc_at _ _ _ _ (by simp)
            | 1, hi => simp at hi; subst hi; exact World.cell?_alloc_at _ _ _ _ (by simp)
            | i + 2, hi => simp at hi
          case qc3 => intro u hu; simp at hu; rcases hu with rfl | rfl <;> rfl
          case qc4 => have := HN.out; unfold maxLen; omega
          case qc5 => have := HN.out; omega
          case qc6 => simp; omega
          intro v' w7 hown hgrow hnil
          have HO7 : Hid (OwnI w7 w.heap.size v' (Z ++ [f, t])) := by
            show w7.ownsRow _ _ _ _ _ _
            simpa using hown
          have HB7 := hid (HBS.out.trans (Below.grown (Below.alloc (Below.alloc (Below.refl _ _) hsz _) (by simp; omega) _) hgrow (by simp; omega) (fun k hk => (World.ownsRow.lt HOS.out k hk).1)))
          clear hown hgrow hnil
          go_wp2_with fail
          go_roundw
          case rel => exact ⟨j + 1, by have := HJL.out; omega, by go_num, by rw [HE.out]; exact HO7.out, HB7.out, trivial⟩
          case measure => have := HJL.out; simp [intOf]; omega
        · have he : lx.take j = lx := List.take_of_length_le (by omega)
          rw [he] at HOS
          clear hos hbs hbr
          go_wp2_with fail
          go_roundw
          case rel =>
            refine ⟨k + 1, by omega, by go_num, ?_, HBS.out⟩
            have h := HOS.out
            rw [← edges_append] at h
            have e : allOf (ls.take (k + 1)) = P ++ lx := by rw [HTS.out, allOf_snoc, HP.out]
            rw [e]; exact h
          case measure => simp [intOf]; omega
    · have he : ls.take k = ls := List.take_of_length_le (by omega)
      rw [he] at HO
      clear ho hb
      go_wp2_with fail
      go_ret
      exact ⟨⟨_, rfl, HO.out⟩, HB.out⟩
end SpanC
end Go.Proofs.Ytpnahhpkaegeeaa
