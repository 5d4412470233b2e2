/- Package lock: longest, Bound. -/
import Derived.Test.YteekbhnciapmjaaLkN
set_option linter.unusedVariables false
namespace Go.Proofs.Yteekbhnciapmjaa
open Go.RowKit
open Go.Shelf Go.Sort
open SpanM SpanC IntsC
open RowsO hiding Wk
namespace LockC
open LockM
open NumC (Row)
/-- what longest keeps: the most, the row, how many locks it has -/
def lgS (C : List Int) (i : Int) (s : Int × Int × Int) (a : LockM.Ac) : Int × Int × Int :=
  if a.1 = 1 then (if s.2.2 = 0 then (s.1, 0, s.2.2) else (max s.1 (s.2.1 + a.2), s.2.1 + a.2, s.2.2))
  else if i < C.getD a.2.toNat 0 then s
  else if a.1 = 2 then (s.1, s.2.1, s.2.2 + 1) else (s.1, s.2.1, s.2.2 - 1)
def lgF (C : List Int) (i : Int) (l : List LockM.Ac) : Int × Int × Int := l.foldl (lgS C i) (0, 0, 0)
theorem lgF_next {C : List Int} {i : Int} {l : List LockM.Ac} {j : Nat} (h : j < l.length) : lgF C i (l.take (j + 1)) = lgS C i (lgF C i (l.take j)) l[j] := by
  unfold lgF
  rw [List.take_succ_eq_append_getElem h, List.foldl_append]; rfl
theorem lgF_bd {C : List Int} {i : Int} {l : List LockM.Ac} (h : ∀ a ∈ l, a.1 = 1 → 0 ≤ a.2 ∧ a.2 ≤ 100) : ∀ j, j ≤ l.length → 0 ≤ (lgF C i (l.take j)).1 ∧ (lgF C i (l.take j)).1 ≤ 100 * j ∧ 0 ≤ (lgF C i (l.take j)).2.1 ∧ (lgF C i (l.take j)).2.1 ≤ 100 * j ∧ -(j : Int) ≤ (lgF C i (l.take j)).2.2 ∧ (lgF C i (l.take j)).2.2 ≤ j := by
  intro j
  induction j with
  | zero => intro _; simp [lgF]
  | succ j ih =>
    intro hj
    obtain ⟨h1, h2, h3, h4, h5, h6⟩ := ih (by omega)
    have hm := h l[j] (List.getElem_mem (by omega))
    rw [lgF_next (show j < l.length by omega)]
    generalize lgF C i (l.take j) = s at *
    unfold lgS
    split
    · rename_i e
      have := hm e
      split
      · simp only; omega
      · simp only
        refine ⟨?_, ?_, ?_, ?_, ?_, ?_⟩ <;> omega
    · split
      · omega
      · split
        · simp only; omega
        · simp only; omega
theorem run_bd {w : LockM.Wk} (hw : w.Ok) : ∀ a ∈ w.2, a.1 = 1 → 0 ≤ a.2 ∧ a.2 ≤ 100 := by
  intro a ha e
  obtain ⟨j, hj, rfl⟩ := List.getElem_of_mem ha
  rcases kind_of hw.all hj with c | c | c
  · omega
  · omega
  · omega
/-- each act's lock -/
theorem lock_of {w : LockM.Wk} (hw : w.Ok) {j : Nat} (hj : j < w.2.length) (h : w.2[j].1 ≠ 1) : (w.2[j].1 = 2 ∨ w.2[j].1 = 3) ∧ 0 ≤ w.2[j].2 ∧ w.2[j].2 ≤ 7 := by
  rcases kind_of hw.all hj with c | c | c
  · exact absurd c.1 h
  · exact ⟨.inl c.1, c.2.1, c.2.2⟩
  · obtain ⟨g, h1, h2, _⟩ := hasAt_drop hw hj c
    have hin : w.2[j].2 ∈ g := by
      obtain ⟨ys, e⟩ := List.getLast?_eq_some_iff.1 h2
      rw [e]; simp
    exact ⟨.inr c, (hasAt_keeps h1).2 _ hin⟩
set_option maxRecDepth 20000 in
set_option maxHeartbeats 400000 in
theorem longest_any (w : LockM.Wk) (hw : w.Ok) (cl : List Int) (hcl : cl.length = 8) (i : Nat) (hi : i ≤ 8) (a : Option Addr) (c : Nat) (W : World) (hr : Acs W a w.2) :
    Calls Try.prog 23 #[.slice a w.2.length c, .agg (intC cl), .int .i64 i] W fun e w' => e = .returned (.int .i64 (lgF cl i w.2).1) ∧ Below W.heap.size W w' := by
  have HR := hid hr
  have HB := hid (lgF_bd (C := cl) (i := i) (run_bd hw))
  have HW := hid hw
  have HTK := hid (List.take_of_length_le (Nat.le_refl w.2.length))
  have h30 := hw.many
  have HNX := hid (fun j (hj : j < w.2.length) => lgF_next (C := cl) (i := i) hj)
  have HCL := hid (fun n (hn : n < 8) => intC_at cl (k := n) (by rw [hcl]; exact hn))
  clear hr hw
  obtain ⟨cv, hcv⟩ : ∃ y, y = intC cl := ⟨_, rfl⟩
  have hb0 : Hid ((W.alloc (.cells cv 47)).heap[W.heap.size]? = some (.cells cv 47)) := box_new W _ _
  have hcv8 : cv.size = 8 := by rw [hcv]; simp [intC, hcl]
  rw [← hcv] at HCL ⊢
  match cl, hcl with
  | [e0, e1, e2, e3, e4, e5, e6, e7], _ =>
    have hcv2 : cv = #[.int .i64 e0, .int .i64 e1, .int .i64 e2, .int .i64 e3, .int .i64 e4, .int .i64 e5, .int .i64 e6, .int .i64 e7] := hcv
    clear hcv
    subst hcv2
    generalize hclg : [e0, e1, e2, e3, e4, e5, e6, e7] = cl at *
    go_enter Try.func23, Try.ntmps23
    go_wp2_with fail
    go_loopw [7, 8, 9, 14] (fun v7 v8 v9 v14 wr => ∃ j : Nat, j ≤ w.2.length ∧ v14 = .int .i64 j ∧ v7 = .int .i64 (lgF cl i (w.2.take j)).1 ∧ v8 = .int .i64 (lgF cl i (w.2.take j)).2.1 ∧ v9 = .int .i64 (lgF cl i (w.2.take j)).2.2 ∧ Below W.heap.size W wr ∧ Hid (wr.heap[W.heap.size]? = some (.cells #[.int .i64 e0, .int .i64 e1, .int .i64 e2, .int .i64 e3, .int .i64 e4, .int .i64 e5, .int .i64 e6, .int .i64 e7] 47))) (fun _ _ _ v14 _ => w.2.length - (intOf v14).toNat)
    case atStart => exact ⟨0, by omega, rfl, rfl, rfl, rfl, (Below.refl _ _).alloc (Nat.le_refl _) _, hb0.out⟩
    case round =>
      obtain ⟨j, hj, rfl, rfl, rfl, rfl, hb, hbx⟩ := hrel
      have HBL := hid hb
      by_cases hlt : j < w.2.length
      · obtain ⟨b, off, rfl, _, d1, d2⟩ := (HR.out.below hb (Nat.le_refl _)).at j hlt
        rw [ac_at hlt] at d1 d2
        have i1 : (j : Int) < (w.2.length : Int) := by omega
        have hnx := HNX.out j hlt
        obtain ⟨b1, b2, b3, b4, b5, b6⟩ := HB.out j hj
        have hkd := kind_of HW.out.all hlt
        have hlk := lock_of HW.out hlt
        have hbl := (Array.getElem?_eq_some_iff.1 hbx.out).1
        generalize lgF cl i (w.2.take j) = s at *
        generalize w.2[j] = x at *
        obtain ⟨m, r, h⟩ := s
        obtain ⟨x1, x2⟩ := x
        simp only [lgS] at d1 d2 hnx b1 b2 b3 b4 b5 b6 hkd hlk
        clear hb
        have HNX2 := hid hnx
        clear hnx
        by_cases c1 : x1 = 1
        · have q1 : (x1 == 1) = true := by simp [c1]
          have hx2 : 1 ≤ x2 ∧ x2 ≤ 100 := by
            rcases hkd with c | c | c
            · exact c.2
            · omega
            · omega
          rw [if_pos c1] at HNX2
          by_cases hh : h = 0
          · have q2 : (h == 0) = true := by simp [hh]
            rw [if_pos hh] at HNX2
            clear c1 hh hkd hlk
            go_wp2_with fail
            go_roundw
            case rel => exact ⟨j + 1, by omega, by go_num, by rw [HNX2.out], by rw [HNX2.out], by rw [HNX2.out], HBL.out.alloc HBL.out.size _, box_alloc hbx.out _⟩
            case measure => simp [intOf]; omega
          · have q2 : (h == 0) = false := by simp [hh]
            rw [if_neg hh] at HNX2
            clear c1 hh hkd hlk
            go_wp2_with fail
            go_roundw
            case rel => exact ⟨j + 1, by omega, by go_num, by rw [HNX2.out], by rw [HNX2.out], by rw [HNX2.out], HBL.out.alloc HBL.out.size _, box_alloc hbx.out _⟩
            case measure => simp [intOf]; omega
        · have q1 : (x1 == 1) = false := by simp [c1]
          obtain ⟨hk23, hx0, hx7⟩ := hlk c1
          obtain ⟨n, rfl⟩ : ∃ n : Nat, x2 = n := ⟨x2.toNat, by omega⟩
          have hn8 : n < 8 := by omega
          have hn8' : (n : Int) < 8 := by omega
          have hcn := HCL.out n hn8
          have hcell := box_cell hbx.out n
          rw [hcn] at hcell
          rw [if_neg c1, Int.toNat_natCast] at HNX2
          generalize cl.getD n 0 = cn at *
          clear hcn
          by_cases hg : (i : Int) < cn
          · rw [if_pos hg] at HNX2
            clear c1 hkd hk23
            go_wp2_with fail
            go_roundw
            case rel => exact ⟨j + 1, by omega, by go_num, by rw [HNX2.out], by rw [HNX2.out], by rw [HNX2.out], HBL.out.alloc HBL.out.size _, box_alloc hbx.out _⟩
            case measure => simp [intOf]; omega
          · rw [if_neg hg] at HNX2
            by_cases c2 : x1 = 2
            · have q2 : (x1 == 2) = true := by simp [c2]
              rw [if_pos c2] at HNX2
              clear c1 c2 hkd hk23
              go_wp2_with fail
              go_roundw
              case rel => exact ⟨j + 1, by omega, by go_num, by rw [HNX2.out], by rw [HNX2.out], by rw [HNX2.out], HBL.out.alloc HBL.out.size _, box_alloc hbx.out _⟩
              case measure => simp [intOf]; omega
            · have q2 : (x1 == 2) = false := by simp [c2]
              rw [if_neg c2] at HNX2
              clear c1 c2 hkd hk23
              go_wp2_with fail
              go_roundw
              case rel => exact ⟨j + 1, by omega, by go_num, by rw [HNX2.out], by rw [HNX2.out], by rw [HNX2.out], HBL.out.alloc HBL.out.size _, box_alloc hbx.out _⟩
              case measure => simp [intOf]; omega
      · obtain rfl : j = w.2.length := by omega
        rw [HTK.out]
        clear hb
        go_wp2_with fail
        go_ret
        exact ⟨rfl, HBL.out⟩
end LockC
end Go.Proofs.Yteekbhnciapmjaa
