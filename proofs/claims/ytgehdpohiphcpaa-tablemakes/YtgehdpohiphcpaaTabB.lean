/- Windows in memory; contracts of package table: within, isOwner, endOf, Check, Owner. -/
import Derived.Test.YtgehdpohiphcpaaSpanC2
import Derived.Test.YtgehdpohiphcpaaTabM
import Derived.BigQuiet
set_option linter.unusedVariables false
namespace Go.Proofs.Ytgehdpohiphcpaa
open Go.RowKit
open SpanM SpanC TabM
namespace TabC
theorem hid {p : Prop} (h : p) : Hid p := h
/-- the windows that lie at a -/
def Wns (w : World) (a : Option Addr) (l : List Win) : Prop :=
  (∀ x ∈ l, x.1 ≤ 9223372036854775807) ∧ (l = [] ∨ ∃ b off, a = some ⟨b, off, none⟩ ∧ ∀ i, i < l.length → w.cell? ⟨b, off + i * 3, none⟩ = some (.int .i64 (l.getD i z3).1) ∧ w.cell? ⟨b, off + i * 3 + 1, none⟩ = some (.int .i64 (l.getD i z3).2.1) ∧ w.cell? ⟨b, off + i * 3 + 2, none⟩ = some (.int .i64 (l.getD i z3).2.2))
theorem Wns.below {w w' : World} {a : Option Addr} {l : List Win} {B : Nat} (h : Wns w a l) (hb : Below B w w') (hB : w.heap.size ≤ B) : Wns w' a l := by
  obtain ⟨h0, h⟩ := h
  refine ⟨h0, ?_⟩
  rcases h with rfl | ⟨b, off, rfl, h⟩
  · exact .inl rfl
  · refine .inr ⟨b, off, rfl, fun i hi => ?_⟩
    obtain ⟨h1, h2, h3⟩ := h i hi
    have hlt := World.block_lt_of_cell? w _ h1
    have hl : b < B := by simpa using Nat.lt_of_lt_of_le hlt hB
    exact ⟨(hb.cell (by simpa using hl)).trans h1, (hb.cell (by simpa using hl)).trans h2, (hb.cell (by simpa using hl)).trans h3⟩
theorem Wns.at {w : World} {a : Option Addr} {l : List Win} (h : Wns w a l) (k : Nat) (hk : k < l.length) :
    ∃ b off, a = some ⟨b, off, none⟩ ∧ b < w.heap.size ∧ w.cell? ⟨b, off + k * 3, none⟩ = some (.int .i64 (l.getD k z3).1) ∧ w.cell? ⟨b, off + k * 3 + 1, none⟩ = some (.int .i64 (l.getD k z3).2.1) ∧ w.cell? ⟨b, off + k * 3 + 2, none⟩ = some (.int .i64 (l.getD k z3).2.2) := by
  obtain ⟨h0, h⟩ := h
  rcases h with rfl | ⟨b, off, rfl, h⟩
  · simp at hk
  · obtain ⟨h1, h2, h3⟩ := h k hk
    exact ⟨b, off, rfl, World.block_lt_of_cell? w _ h1, h1, h2, h3⟩
theorem Wns.get {w wr : World} {a : Option Addr} {l : List Win} {o : Obj} (h : Wns w a l) (hb : Below (w.heap.size + 1) (w.alloc o) wr) (k : Nat) (hk : k < l.length) :
    ∃ b off, a = some ⟨b, off, none⟩ ∧ b < w.heap.size ∧ wr.cell? ⟨b, off + k * 3, none⟩ = some (.int .i64 (l.getD k z3).1) ∧ wr.cell? ⟨b, off + k * 3 + 1, none⟩ = some (.int .i64 (l.getD k z3).2.1) ∧ wr.cell? ⟨b, off + k * 3 + 2, none⟩ = some (.int .i64 (l.getD k z3).2.2) := by
  obtain ⟨b, off, rfl, hbw, c1, c2, c3⟩ := h.at k hk
  exact ⟨b, off, rfl, hbw, (hb.cell (by simp; omega)).trans (Lib.cell?_alloc_some _ c1), (hb.cell (by simp; omega)).trans (Lib.cell?_alloc_some _ c2), (hb.cell (by simp; omega)).trans (Lib.cell?_alloc_some _ c3)⟩
/-- a call behind a new block -/
theorem bel_al {B : Nat} {a w w2 : World} {o : Obj} (h : Below B a w) (hs : B ≤ w.heap.size) (k : Below (w.alloc o).heap.size (w.alloc o) w2) : Below B a w2 :=
  (Below.alloc h hs o).trans (k.mono (by simp; omega))

theorem within_yes (x lo hi : Int) (w : World) (h1 : lo ≤ x) (h2 : x ≤ hi) :
    Calls Try.prog 39 #[.int .i64 x, .int .i64 lo, .int .i64 hi] w fun e w' => e = .returned (.bool true) ∧ w' = w := by
  go_enter Try.func39, Try.ntmps39
  go_wp2
  go_ret
  exact ⟨rfl, rfl⟩
theorem within_no (x lo hi : Int) (w : World) (h : ¬ (lo ≤ x ∧ x ≤ hi)) :
    Calls Try.prog 39 #[.int .i64 x, .int .i64 lo, .int .i64 hi] w fun e w' => e = .returned (.bool false) ∧ w' = w := by
  by_cases h1 : lo ≤ x
  · have h2 : ¬ x ≤ hi := fun k => h ⟨h1, k⟩
    clear h
    go_enter Try.func39, Try.ntmps39
    go_wp2
    go_ret
    exact ⟨rfl, rfl⟩
  · clear h
    go_enter Try.func39, Try.ntmps39
    go_wp2
    go_ret
    exact ⟨rfl, rfl⟩
theorem Calls.same {P : Program} {f : FuncId} {args : Array Value} {w : World} {v : Value} (h : Calls P f args w fun e w' => e = .returned v ∧ w' = w) : Calls P f args w fun e w' => e = .returned v ∧ Below w.heap.size w w' :=
  h.mono fun _ _ ⟨h1, h2⟩ => ⟨h1, by rw [h2]; exact Below.refl _ _⟩
theorem isOwner_yes (x : Int) (w : World) (h1 : 0 ≤ x) (h2 : x ≤ 15) :
    Calls Try.prog 41 #[.int .i64 x] w fun e w' => e = .returned (.bool true) ∧ w' = w := by
  go_enter Try.func41, Try.ntmps41
  go_wp2_with (go_at_call 39; go_call (within_yes _ _ _ _) as e w' ⟨rfl, rfl⟩)
  go_ret
  exact ⟨rfl, rfl⟩
theorem isOwner_no (x : Int) (w : World) (h : ¬ (0 ≤ x ∧ x ≤ 15)) :
    Calls Try.prog 41 #[.int .i64 x] w fun e w' => e = .returned (.bool false) ∧ w' = w := by
  go_enter Try.func41, Try.ntmps41
  go_wp2_with (go_at_call 39; go_call (within_no _ _ _ _) as e w' ⟨rfl, rfl⟩)
  go_ret
  exact ⟨rfl, rfl⟩
theorem endOf_any (f n o : Int) (w : World) (h1 : -9223372036854775808 ≤ f + n) (h2 : f + n ≤ 9223372036854775807) :
    Calls Try.prog 40 #[.agg #[.int .i64 f, .int .i64 n, .int .i64 o]] w fun e w' => e = .returned (.int .i64 (f + n)) ∧ Below w.heap.size w w' := by
  go_enter Try.func40, Try.ntmps40
  go_wp2_with fail
  go_ret
  exact ⟨rfl, by go_grown⟩

theorem check_arg (size : Int) (a : Option Addr) (n cap : Nat) (w : World) (h : ¬ (1 ≤ size ∧ size ≤ 1000000)) :
    Calls Try.prog 17 #[.agg #[.int .i64 size, .slice a n cap]] w fun e w' => e = .returned (.int .i64 1) ∧ Below w.heap.size w w' := by
  go_enter Try.func17, Try.ntmps17
  go_wp2_with (first | (go_at_call 39; go_call (within_yes _ _ _ _) as e w' ⟨rfl, rfl⟩) | (go_at_call 39; go_call (within_no _ _ _ _) as e w' ⟨rfl, rfl⟩))
  go_ret
  exact ⟨rfl, by go_grown⟩
theorem check_large (size : Int) (a : Option Addr) (n cap : Nat) (w : World) (h1 : 1 ≤ size) (h2 : size ≤ 1000000) (h : 200 < n) :
    Calls Try.prog 17 #[.agg #[.int .i64 size, .slice a n cap]] w fun e w' => e = .returned (.int .i64 2) ∧ Below w.heap.size w w' := by
  have hn : (200 : Int) < (n : Int) := by omega
  go_enter Try.func17, Try.ntmps17
  go_wp2_with (first | (go_at_call 39; go_call (within_yes _ _ _ _) as e w' ⟨rfl, rfl⟩) | (go_at_call 39; go_call (within_no _ _ _ _) as e w' ⟨rfl, rfl⟩))
  go_ret
  exact ⟨rfl, by go_grown⟩
set_option maxHeartbeats 400000 in
theorem check_list (size : Int) (a : Option Addr) (cap : Nat) (l : List Win) (w : World) (h1 : 1 ≤ size) (h2 : size ≤ 1000000) (h : ¬ 200 < l.length) (hr : Wns w a l) :
    Calls Try.prog 17 #[.agg #[.int .i64 size, .slice a l.length cap]] w fun e w' => e = .returned (.int .i64 (tchkG size l)) ∧ Below w.heap.size w w' := by
  have hn : ¬ (200 : Int) < (l.length : Int) := by omega
  have HR := hid hr
  clear hr
  go_enter Try.func17, Try.ntmps17
  go_wp2_with (first | (go_at_call 39; go_call (within_yes _ _ _ _) as e w' ⟨rfl, rfl⟩) | (go_at_call 39; go_call (within_no _ _ _ _) as e w' ⟨rfl, rfl⟩))
  go_loopw [3, 17] (fun v3 v17 wr => ∃ (k : Nat) (E : Int), k ≤ l.length ∧ v3 = .int .i64 E ∧ v17 = .int .i64 k ∧ Hid (wgood size 0 l = wgood size E (l.drop k)) ∧ 0 ≤ E ∧ E ≤ size ∧ Below (w.heap.size + 1) (w.alloc (.cells #[.int .i64 size, .slice a l.length cap] 24)) wr) (fun _ v17 _ => l.length - (intOf v17).toNat)
  case atStart => exact ⟨0, 0, by omega, rfl, rfl, by show _ = _; simp, by omega, by omega, Below.refl _ _⟩
  case round =>
    obtain ⟨k, E, hk, rfl, rfl, hg, hE0, hE1, hb⟩ := hrel
    have hsz := hb.size
    simp only [World.size_alloc] at hsz
    have hB := hid hb
    by_cases hlt : k < l.length
    · obtain ⟨b, off, rfl, hbw, d1, d2, d3⟩ := HR.out.get hb k hlt
      have d4 : wr.cell? ⟨w.heap.size, 0, none⟩ = some (.int .i64 size) := (hb.cell (by simp)).trans (World.cell?_alloc_at _ _ _ _ rfl)
      have hd := drop_get z3 l k hlt
      have hfm : (l.getD k z3).1 ≤ 9223372036854775807 := HR.out.1 _ (by simp [List.getD, hlt])
      clear hb
      generalize hz : l.getD k z3 = z at d1 d2 d3 hd hfm
      obtain ⟨f, n, o⟩ := z
      have Hd := hid hd
      clear hz hd
      simp only at d1 d2 d3 hfm
      have hne : b < wr.heap.size := by omega
      have hne2 : w.heap.size < wr.heap.size := by omega
      have hbe : Below w.heap.size w wr := of_alloc hB.out
      have HF4 : Hid (¬ (0 ≤ o ∧ o ≤ 15 ∧ E ≤ f ∧ 1 ≤ n ∧ f + n ≤ size) → tchkG size l = 4) := by
        intro ho
        unfold tchkG
        rw [if_neg]
        rw [hg.out, Hd.out]
        intro hh
        exact ho (wgood_cons.1 hh).1
      by_cases ho : 0 ≤ o ∧ o ≤ 15
      · obtain ⟨o1, o2⟩ := ho
        by_cases hf : E ≤ f
        · by_cases hn : 1 ≤ n ∧ n ≤ size - f
          · obtain ⟨n1, n2⟩ := hn
            have hlt2 : ¬ f < E := by omega
            go_wp2_with (first | (go_at_call 41; go_call (isOwner_yes _ _) as e w' ⟨rfl, rfl⟩) | (go_at_call 39; go_call (within_yes _ _ _ _) as e w' ⟨rfl, rfl⟩) | (go_at_call 40; refine (endOf_any _ _ _ _ (by omega) (by omega)).mono ?_; rintro e w2 ⟨rfl, hb2⟩))
            go_roundw
            case rel =>
              refine ⟨k + 1, f + n, by omega, by go_num, by go_num, ?_, by omega, by omega, bel_al hB.out (by omega) hb2⟩
              show _ = _
              rw [hg.out, Hd.out]
              have : wfit size E (f, n, o) := ⟨o1, o2, hf, n1, by simp only; omega⟩
              simp [wgood, this]
            case measure => simp [intOf]; omega
          · have HF : Hid (tchkG size l = 4) := HF4.out (by omega)
            have hlt2 : ¬ f < E := by omega
            go_wp2_with (first | (go_at_call 41; go_call (isOwner_yes _ _) as e w' ⟨rfl, rfl⟩) | (go_at_call 39; go_call (within_no _ _ _ _) as e w' ⟨rfl, rfl⟩))
            go_ret
            exact ⟨ret_int HF.out.symm, by go_grown⟩
        · have HF : Hid (tchkG size l = 4) := HF4.out (by omega)
          have hlt2 : f < E := by omega
          go_wp2_with (first | (go_at_call 41; go_call (isOwner_yes _ _) as e w' ⟨rfl, rfl⟩))
          go_ret
          exact ⟨ret_int HF.out.symm, by go_grown⟩
      · have HF : Hid (tchkG size l = 4) := HF4.out (by omega)
        go_wp2_with (first | (go_at_call 41; go_call (isOwner_no _ _) as e w' ⟨rfl, rfl⟩))
        go_ret
        exact ⟨ret_int HF.out.symm, by go_grown⟩
    · have HF : Hid (tchkG size l = 0) := by
        show _ = _
        unfold tchkG
        rw [if_pos]
        rw [hg.out, List.drop_of_length_le (by omega)]; rfl
      clear hb
      go_wp2_with fail
      go_ret
      exact ⟨ret_int HF.out.symm, of_alloc hB.out⟩
theorem check_any (size : Int) (a : Option Addr) (cap : Nat) (l : List Win) (w : World) (hr : Wns w a l) :
    Calls Try.prog 17 #[.agg #[.int .i64 size, .slice a l.length cap]] w fun e w' => e = .returned (.int .i64 (tchk size l)) ∧ Below w.heap.size w w' := by
  unfold tchk
  split
  · split
    · exact check_large size a _ cap w (by omega) (by omega) (by omega)
    · exact check_list size a cap l w (by omega) (by omega) (by omega) hr
  · exact check_arg size a _ cap w (by omega)
theorem check_ok (size : Int) (a : Option Addr) (cap : Nat) (l : List Win) (w : World) (hr : Wns w a l) (hk : tchk size l = 0) :
    Calls Try.prog 17 #[.agg #[.int .i64 size, .slice a l.length cap]] w fun e w' => e = .returned (.int .i64 0) ∧ Below w.heap.size w w' := by
  have := check_any size a cap l w hr
  rwa [hk] at this
end TabC
end Go.Proofs.Ytgehdpohiphcpaa
