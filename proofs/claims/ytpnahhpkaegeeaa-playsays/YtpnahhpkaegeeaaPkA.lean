/- Several texts, one behind the other: SpanB SpanC SpanC2. -/
import Derived.Test.YtpnahhpkaegeeaaChecked
import Derived.Test.YtpnahhpkaegeeaaPkM
import Derived.WalkKit
import Derived.ProofKit
import Derived.OpenShut
import Derived.Handy
import Derived.Below
import Derived.Deep.QuietTactic
import Derived.Lib.SliceRun
import Derived.BigQuiet
/- Spans in memory. -/
set_option linter.unusedVariables false
namespace Go.Proofs.Ytpnahhpkaegeeaa
open Go.RowKit
open SpanM
namespace SpanC
/-- the spans that lie at a -/
def Sps (w : World) (a : Option Addr) (l : List Sp) : Prop :=
  l = [] ∨ ∃ b off, a = some ⟨b, off, none⟩ ∧ ∀ i, i < l.length → w.cell? ⟨b, off + i * 2, none⟩ = some (.int .i64 (l.getD i (0, 0)).1) ∧ w.cell? ⟨b, off + i * 2 + 1, none⟩ = some (.int .i64 (l.getD i (0, 0)).2)

theorem Sps.below {w w' : World} {a : Option Addr} {l : List Sp} {B : Nat} (h : Sps w a l) (hb : Below B w w') (hB : w.heap.size ≤ B) : Sps w' a l := by
  rcases h with rfl | ⟨b, off, rfl, h⟩
  · exact .inl rfl
  · refine .inr ⟨b, off, rfl, fun i hi => ?_⟩
    obtain ⟨h1, h2⟩ := h i hi
    have hlt := World.block_lt_of_cell? w _ h1
    exact ⟨(hb.cell (by simpa using Nat.lt_of_lt_of_le hlt hB)).trans h1, (hb.cell (by simpa using Nat.lt_of_lt_of_le hlt hB)).trans h2⟩

/-- one of them, and that its block is an old one -/
theorem Sps.at {w : World} {a : Option Addr} {l : List Sp} (h : Sps w a l) (k : Nat) (hk : k < l.length) :
    ∃ b off, a = some ⟨b, off, none⟩ ∧ b < w.heap.size ∧ w.cell? ⟨b, off + k * 2, none⟩ = some (.int .i64 (l.getD k (0, 0)).1) ∧ w.cell? ⟨b, off + k * 2 + 1, none⟩ = some (.int .i64 (l.getD k (0, 0)).2) := by
  rcases h with rfl | ⟨b, off, rfl, h⟩
  · simp at hk
  · obtain ⟨h1, h2⟩ := h k hk
    exact ⟨b, off, rfl, World.block_lt_of_cell? w _ h1, h1, h2⟩

/-- .. behind a block of the call's own -/
theorem Sps.get {w wr : World} {a : Option Addr} {l : List Sp} {o : Obj} (h : Sps w a l) (hb : Below (w.heap.size + 1) (w.alloc o) wr) (k : Nat) (hk : k < l.length) :
    ∃ b off, a = some ⟨b, off, none⟩ ∧ b < w.heap.size ∧ wr.cell? ⟨b, off + k * 2, none⟩ = some (.int .i64 (l.getD k (0, 0)).1) ∧ wr.cell? ⟨b, off + k * 2 + 1, none⟩ = some (.int .i64 (l.getD k (0, 0)).2) := by
  obtain ⟨b, off, rfl, hbw, c1, c2⟩ := h.at k hk
  exact ⟨b, off, rfl, hbw, (hb.cell (by simp; omega)).trans (Lib.cell?_alloc_some _ c1), (hb.cell (by simp; omega)).trans (Lib.cell?_alloc_some _ c2)⟩

theorem of_alloc {w wr : World} {o : Obj} (hb : Below (w.heap.size + 1) (w.alloc o) wr) : Below w.heap.size w wr :=
  ((Below.refl _ _).alloc (Nat.le_refl _) _).trans (hb.mono (by omega))
theorem bel_of {w a b : World} (h : Below w.heap.size w a) (k : Below a.heap.size a b) : Below w.heap.size w b := h.trans (k.mono h.size)

theorem below_drewN {B : Nat} {a w : World} (h : Below B a w) (n : Nat) : Below B a (w.drewN n) := ⟨h.os, h.tape, h.output, h.size, h.block⟩

theorem box1 {w w1 : World} {o : Obj} (h : Below (w.alloc o).heap.size (w.alloc o) w1) : Below (w.heap.size + 1) (w.alloc o) w1 := by simpa using h
theorem box2 {w a b : World} {o : Obj} (h : Below (w.heap.size + 1) (w.alloc o) a) (k : Below a.heap.size a b) : Below (w.heap.size + 1) (w.alloc o) b :=
  h.trans (k.mono (by have := h.size; simpa using this))
theorem boxc {w W : World} {c : Array Value} {t : TypeId} (h : Below (w.heap.size + 1) (w.alloc (.cells c t)) W) (i : Nat) : W.cell? ⟨w.heap.size, i, none⟩ = c[i]? :=
  (h.cell (by simp)).trans (World.cell?_alloc_at _ _ _ _ rfl)

/-- a world in which all that lay in w lies as it was -/
structure BelowOf (w : World) where
  w' : World
  hb : Below w.heap.size w w'
instance (w : World) : Inhabited (BelowOf w) := ⟨⟨w, Below.refl _ _⟩⟩
theorem wp_region_quiet_below {P : Program} {id : Nat} {Q : Exit → Act → World → Prop} {a : Act} {w : World} {l : List Oper} (hm : P.follows .mixedOrders = true) (hB : Region.lexB .any l.toArray = true)
    (h : wpQuiet P l.toArray (fun w' => ∃ p : BelowOf w, w' = p.w') (fun a' => ∀ w', (∃ p : BelowOf w, w' = p.w') → Q .normal a' w') l a) : (Code.region id l.toArray true).wp P Q a w :=
  wp_region_quiet (C := fun w' => ∃ p : BelowOf w, w' = p.w') hm hB ⟨⟨w.drew, (Below.refl _ _).drew⟩, rfl⟩ (by simpa using h)
theorem Calls.below_of {P : Program} {f : FuncId} {args : Array Value} {w : World} {v : Value} (p : BelowOf w)
    (h : Calls P f args p.w' fun e w' => e = .returned v ∧ Below p.w'.heap.size p.w' w') : Calls P f args p.w' fun e w'' => e = .returned v ∧ ∃ p' : BelowOf w, w'' = p'.w' :=
  h.mono fun _ w'' ⟨he, hb⟩ => ⟨he, ⟨w'', bel_of p.hb hb⟩, rfl⟩
theorem BelowOf.cell {w : World} {a : Addr} {v : Value} (h : w.cell? a = some v) (p : BelowOf w) : p.w'.cell? a = some v :=
  (p.hb.cell (World.block_lt_of_cell? w _ h)).trans h

theorem ret_int {k : IntKind} {a b : Int} (h : a = b) : Ending.returned (.int k a) = .returned (.int k b) := by rw [h]
/-- what Check says -/
def chkG (size : Int) (l : List Sp) : Int := if good size (-1) l = true then 0 else 4
def chk (size : Int) (l : List Sp) : Int := if 1 ≤ size ∧ size ≤ 1000000 then (if 200 < l.length then 2 else chkG size l) else 1
theorem chk_zero {size : Int} {l : List Sp} (h : chk size l = 0) : 1 ≤ size ∧ size ≤ 1000000 ∧ l.length ≤ 200 ∧ good size (-1) l = true := by
  unfold chk chkG at h
  split at h
  · split at h
    · simp at h
    · split at h
      · exact ⟨by omega, by omega, by omega, ‹_›⟩
      · simp at h
  · simp at h
theorem chk_of {size : Int} {l : List Sp} (h1 : 1 ≤ size) (h2 : size ≤ 1000000) (h3 : l.length ≤ 200) (h4 : good size (-1) l = true) : chk size l = 0 := by
  unfold chk chkG
  rw [if_pos ⟨h1, h2⟩, if_neg (by omega), if_pos h4]
end SpanC
end Go.Proofs.Ytpnahhpkaegeeaa

/- Contracts of package span: within, Check. -/
set_option linter.unusedVariables false
namespace Go.Proofs.Ytpnahhpkaegeeaa
open Go.RowKit
open SpanM
namespace SpanC
theorem within_yes (x lo hi : Int) (w : World) (h1 : lo ≤ x) (h2 : x ≤ hi) :
    Calls Try.prog 64 #[.int .i64 x, .int .i64 lo, .int .i64 hi] w fun e w' => e = .returned (.bool true) ∧ w' = w := by
  go_enter Try.func64, Try.ntmps64
  go_wp2
  go_ret
  exact ⟨rfl, rfl⟩
theorem within_no (x lo hi : Int) (w : World) (h : ¬ (lo ≤ x ∧ x ≤ hi)) :
    Calls Try.prog 64 #[.int .i64 x, .int .i64 lo, .int .i64 hi] w fun e w' => e = .returned (.bool false) ∧ w' = w := by
  by_cases h1 : lo ≤ x
  · have h2 : ¬ x ≤ hi := fun k => h ⟨h1, k⟩
    clear h
    go_enter Try.func64, Try.ntmps64
    go_wp2
    go_ret
    exact ⟨rfl, rfl⟩
  · clear h
    go_enter Try.func64, Try.ntmps64
    go_wp2
    go_ret
    exact ⟨rfl, rfl⟩

theorem check_arg (size : Int) (a : Option Addr) (n cap : Nat) (w : World) (h : ¬ (1 ≤ size ∧ size ≤ 1000000)) :
    Calls Try.prog 42 #[.agg #[.int .i64 size, .slice a n cap]] w fun e w' => e = .returned (.int .i64 1) ∧ Below w.heap.size w w' := by
  go_enter Try.func42, Try.ntmps42
  go_wp2_with (first | (go_at_call 64; go_call (within_yes _ _ _ _) as e w' ⟨rfl, rfl⟩) | (go_at_call 64; go_call (within_no _ _ _ _) as e w' ⟨rfl, rfl⟩))
  go_ret
  exact ⟨rfl, by go_grown⟩
theorem check_large (size : Int) (a : Option Addr) (n cap : Nat) (w : World) (h1 : 1 ≤ size) (h2 : size ≤ 1000000) (h : 200 < n) :
    Calls Try.prog 42 #[.agg #[.int .i64 size, .slice a n cap]] w fun e w' => e = .returned (.int .i64 2) ∧ Below w.heap.size w w' := by
  have hn : (200 : Int) < (n : Int) := by omega
  go_enter Try.func42, Try.ntmps42
  go_wp2_with (first | (go_at_call 64; go_call (within_yes _ _ _ _) as e w' ⟨rfl, rfl⟩) | (go_at_call 64; go_call (within_no _ _ _ _) as e w' ⟨rfl, rfl⟩))
  go_ret
  exact ⟨rfl, by go_grown⟩
set_option maxHeartbeats 400000 in
theorem check_list (size : Int) (a : Option Addr) (cap : Nat) (l : List Sp) (w : World) (h1 : 1 ≤ size) (h2 : size ≤ 1000000) (h : ¬ 200 < l.length) (hr : Sps w a l) :
    Calls Try.prog 42 #[.agg #[.int .i64 size, .slice a l.length cap]] w fun e w' => e = .returned (.int .i64 (chkG size l)) ∧ Below w.heap.size w w' := by
  have hn : ¬ (200 : Int) < (l.length : Int) := by omega
  have HR : Hid _ := hr
  clear hr
  go_enter Try.func42, Try.ntmps42
  go_wp2_with (first | (go_at_call 64; go_call (within_yes _ _ _ _) as e w' ⟨rfl, rfl⟩) | (go_at_call 64; go_call (within_no _ _ _ _) as e w' ⟨rfl, rfl⟩))
  go_loopw [3, 17] (fun v3 v17 wr => ∃ (k : Nat) (E : Int), k ≤ l.length ∧ v3 = .int .i64 E ∧ v17 = .int .i64 k ∧ Hid (good size (-1) l = good size E (l.drop k)) ∧ Below (w.heap.size + 1) (w.alloc (.cells #[.int .i64 size, .slice a l.length cap] 25)) wr) (fun _ v17 _ => l.length - (intOf v17).toNat)
  case atStart => exact ⟨0, -1, by omega, rfl, rfl, by show _ = _; simp, Below.refl _ _⟩
  case round =>
    obtain ⟨k, E, hk, rfl, rfl, hg, hb⟩ := hrel
    have hsz := hb.size
    simp only [World.size_alloc] at hsz
    have hB : Hid _ := hb
    by_cases hlt : k < l.length
    · obtain ⟨b, off, rfl, hbw, c1, c2⟩ := Sps.at HR.out k hlt
      have d1 := (hb.cell (p := ⟨b, off + k * 2, none⟩) (by simp; omega)).trans (Lib.cell?_alloc_some _ c1)
      have d2 := (hb.cell (p := ⟨b, off + k * 2 + 1, none⟩) (by simp; omega)).trans (Lib.cell?_alloc_some _ c2)
      have d3 : wr.cell? ⟨w.heap.size, 0, none⟩ = some (.int .i64 size) := (hb.cell (by simp)).trans (World.cell?_alloc_at _ _ _ _ rfl)
      have hd := drop_get l k hlt
      clear c1 c2 hb
      generalize hz : l.getD k (0, 0) = z at d1 d2 hd
      obtain ⟨f, t⟩ := z
      have Hd : Hid _ := hd
      clear hz hd
      simp only at d1 d2
      have hne : b < wr.heap.size := by omega
      have hne2 : w.heap.size < wr.heap.size := by omega
      by_cases ho : E < f ∧ f < t ∧ t ≤ size
      · obtain ⟨o1, o2, o3⟩ := ho
        go_wp2_with fail
        go_roundw
        case rel =>
          refine ⟨k + 1, t, by omega, by go_num, by go_num, ?_, ?_⟩
          · show _ = _
            rw [hg.out, Hd.out]
            simp [good, o1, o2, o3]
          · have := hB.out; go_grown
        case measure => simp [intOf]; omega
      · have HF : Hid (chkG size l = 4) := by
          show _ = _
          unfold chkG
          rw [if_neg]
          rw [hg.out, Hd.out]
          simp [good]
          intro _ _ _
          omega
        have hbe : Below w.heap.size w wr := ((Below.refl _ _).alloc (Nat.le_refl _) _).trans (hB.out.mono (by omega))
        have C : f ≤ E ∨ (E < f ∧ t ≤ f) ∨ (E < f ∧ f < t ∧ size < t) := by omega
        clear ho
        rcases C with o1 | ⟨o1, o2⟩ | ⟨o1, o2, o3⟩
        all_goals
          go_wp2_with fail
          go_ret
          exact ⟨ret_int HF.out.symm, by go_grown⟩
    · have HF : Hid (chkG size l = 0) := by
        show _ = _
        unfold chkG
        rw [if_pos]
        rw [hg.out, List.drop_of_length_le (by omega)]; rfl
      clear hb
      go_wp2_with fail
      go_ret
      exact ⟨ret_int HF.out.symm, ((Below.refl _ _).alloc (Nat.le_refl _) _).trans (hB.out.mono (by omega))⟩
theorem check_any (size : Int) (a : Option Addr) (cap : Nat) (l : List Sp) (w : World) (hr : Sps w a l) :
    Calls Try.prog 42 #[.agg #[.int .i64 size, .slice a l.length cap]] w fun e w' => e = .returned (.int .i64 (chk size l)) ∧ Below w.heap.size w w' := by
  unfold chk
  split
  · split
    · exact check_large size a _ cap w (by omega) (by omega) (by omega)
    · exact check_list size a cap l w (by omega) (by omega) (by omega) hr
  · exact check_arg size a _ cap w (by omega)
end SpanC
end Go.Proofs.Ytpnahhpkaegeeaa

/- Contracts of package span: Has, Count, Next. -/
set_option linter.unusedVariables false
namespace Go.Proofs.Ytpnahhpkaegeeaa
open Go.RowKit
open SpanM
namespace SpanC
theorem check_ok (size : Int) (a : Option Addr) (cap : Nat) (l : List Sp) (w : World) (hr : Sps w a l) (hk : chk size l = 0) :
    Calls Try.prog 42 #[.agg #[.int .i64 size, .slice a l.length cap]] w fun e w' => e = .returned (.int .i64 0) ∧ Below w.heap.size w w' := by
  have := check_any size a cap l w hr
  rwa [hk] at this

set_option maxHeartbeats 400000 in
theorem cir_any (n : Int) (a : Option Addr) (cap : Nat) (l : List Sp) (w : World) (size : Int) (hr : Sps w a l) (hl : l.length ≤ 200) (hg : good size (-1) l = true) (hs : size ≤ 1000000) (hn : 0 ≤ n) (hn2 : n ≤ 1000000) :
    Calls Try.prog 87 #[.slice a l.length cap, .int .i64 n] w fun e w' => e = .returned (.int .i64 (cnt l n)) ∧ Below w.heap.size w w' := by
  have HG : Hid _ := good_each hg
  have HR : Hid (Sps w a l) := hr
  clear hr hg
  go_enter Try.func87, Try.ntmps87
  go_wp2_with fail
  go_loopw [5, 10] (fun v5 v10 wr => ∃ (k : Nat) (c : Int), k ≤ l.length ∧ v5 = .int .i64 c ∧ v10 = .int .i64 k ∧ Hid (c = cnt (l.take k) n) ∧ 0 ≤ c ∧ c ≤ 1000000 * k ∧ Below w.heap.size w wr) (fun _ v10 _ => l.length - (intOf v10).toNat)
  case atStart => exact ⟨0, 0, by omega, rfl, rfl, by show _ = _; simp [cnt], by omega, by omega, Below.refl _ _⟩
  case round =>
    obtain ⟨k, c, hk, rfl, rfl, hc, c1, c2, hb⟩ := hrel
    have hB : Hid _ := hb
    have hsz := hb.size
    by_cases hlt : k < l.length
    · obtain ⟨b, off, rfl, hbw, d1, d2⟩ := (HR.out.below hb (Nat.le_refl _)).at k hlt
      have hge := HG.out (l.getD k (0, 0)) (by simp [List.getD, hlt])
      have hd := take_snoc l k hlt
      clear hb
      generalize hz : l.getD k (0, 0) = z at d1 d2 hd hge
      obtain ⟨f, e⟩ := z
      have Hd : Hid _ := hd
      clear hz hd
      simp only at d1 d2 hge
      obtain ⟨g1, g2, g3⟩ := hge
      have HF : Hid (c + max 0 (min e n - f) = cnt (l.take (k + 1)) n) := by
        show _ = _
        rw [Hd.out, cnt_snoc, hc.out]
      go_wp2_with fail
      all_goals
        go_roundw
        case rel => exact ⟨k + 1, _, by omega, rfl, by go_num, by (first | exact HF | (show _ = _; rw [← HF.out]; omega)), by omega, by omega, by have := hB.out; go_grown⟩
        case measure => simp [intOf]; omega
    · have HF : Hid (c = cnt l n) := by
        show _ = _
        rw [hc.out, List.take_of_length_le (by omega)]
      clear hb
      go_wp2_with fail
      go_ret
      exact ⟨ret_int HF.out, hB.out⟩
theorem cb_bd {size t : Int} {l : List Sp} (hs : 1 ≤ size) (hg : good size (-1) l = true) (ht : 0 ≤ t) : 0 ≤ t / size ∧ t / size ≤ t ∧ 0 ≤ cnt l size ∧ cnt l size ≤ size + 1 ∧ 0 ≤ cnt l (t % size) ∧ cnt l (t % size) ≤ size + 1 ∧ 0 ≤ t / size * cnt l size ∧ t / size * cnt l size ≤ 2 * t := by
  have m1 := Int.emod_nonneg t (show size ≠ 0 by omega)
  have m2 := Int.emod_lt_of_pos t (show 0 < size by omega)
  have q0 : 0 ≤ t / size := Int.ediv_nonneg ht (by omega)
  have q1 : t / size ≤ t := Int.ediv_le_self _ ht
  have a1 := cnt_nonneg l size
  have a2 := (cnt_le (n := size) hg).2
  have b1 := cnt_nonneg l (t % size)
  have b2 := (cnt_le (n := t % size) hg).2
  refine ⟨q0, q1, a1, by omega, b1, by omega, Int.mul_nonneg q0 a1, ?_⟩
  have h1 : t / size * cnt l size ≤ t / size * (size + 1) := Int.mul_le_mul_of_nonneg_left (by omega) q0
  have m3 := Int.emod_add_mul_ediv t size
  rw [Int.mul_add, Int.mul_comm (t / size) size] at h1
  omega
set_option maxHeartbeats 400000 in
theorem cb_any (size t : Int) (a : Option Addr) (cap : Nat) (l : List Sp) (w : World) (hr : Sps w a l) (hk : chk size l = 0) (ht : 0 ≤ t) (ht2 : t ≤ 1099511627776) :
    Calls Try.prog 65 #[.agg #[.int .i64 size, .slice a l.length cap], .int .i64 t] w fun e w' => e = .returned (.int .i64 (cb size l t)) ∧ Below w.heap.size w w' := by
  obtain ⟨s1, s2, s3, s4⟩ := chk_zero hk
  have m1 := Int.emod_nonneg t (show size ≠ 0 by omega)
  have m2 := Int.emod_lt_of_pos t (show 0 < size by omega)
  obtain ⟨q1, q2, q3, q4, q5, q6, q7, q8⟩ := cb_bd s1 s4 ht
  have hc := fun n (h1 : 0 ≤ n) (h2 : n ≤ 1000000) W (h : Below w.heap.size w W) => cir_any n a cap l W size (hr.below h (Nat.le_refl _)) s3 s4 s2 h1 h2
  have HC : Hid _ := hc
  clear hc hr hk s4
  have HE : Hid (t / size * cnt l size + cnt l (t % size) = cb size l t) := rfl
  go_enter Try.func65, Try.ntmps65
  go_wp2_with fail
  go_quiet (fail)
  go_wp2_with fail
  have hb0 : Below w.heap.size w ((w.alloc (.cells #[.int .i64 size, .slice a l.length cap] 25)).drewN nq) := below_drewN (by go_grown) _
  have c0 : ((w.alloc (.cells #[.int .i64 size, .slice a l.length cap] 25)).drewN nq).cell? ⟨w.heap.size, 0, none⟩ = some (.int .i64 size) := World.cell?_alloc_at _ _ _ _ rfl
  have c1 : ((w.alloc (.cells #[.int .i64 size, .slice a l.length cap] 25)).drewN nq).cell? ⟨w.heap.size, 1, none⟩ = some (.slice a l.length cap) := World.cell?_alloc_at _ _ _ _ rfl
  generalize (w.alloc (.cells #[.int .i64 size, .slice a l.length cap] 25)).drewN nq = W0 at hb0 c0 c1 ⊢
  have p0 := BelowOf.cell c0
  have p1 := BelowOf.cell c1
  have HB0 : Hid (Below w.heap.size w W0) := hb0
  clear c0 c1 hb0
  refine wp_region_quiet_below (by kernel_rfl) (by kernel_rfl) ?_
  repeat (quiet_step ((rename_i p; refine Calls.below_of p (HC.out _ (by omega) (by omega) _ (bel_of HB0.out p.hb)))))
  refine wpQuiet_nil ?_
  rintro _ ⟨⟨wq, hbq⟩, rfl⟩
  have HBQ : Hid _ := bel_of HB0.out hbq
  clear hbq
  go_wp2_with fail
  go_ret
  refine ⟨ret_int ?_, HBQ.out⟩
  rw [← HE.out]
  simp (disch := omega) only [IntWalk.i64_in]
theorem count_err (size f t : Int) (a : Option Addr) (cap : Nat) (l : List Sp) (w : World) (hr : Sps w a l) (hk : chk size l ≠ 0) :
    Calls Try.prog 31 #[.agg #[.int .i64 size, .slice a l.length cap], .int .i64 f, .int .i64 t] w fun e w' => e = .returned (.tuple #[.int .i64 0, .int .i64 (chk size l)]) ∧ Below w.heap.size w w' := by
  have hc := fun W (h : Below w.heap.size w W) => check_any size a cap l W (hr.below h (Nat.le_refl _))
  have hne : (chk size l != 0) = true := by simp [hk]
  clear hr hk
  generalize chk size l = c at hc hne ⊢
  have HC : Hid _ := hc
  clear hc
  go_enter Try.func31, Try.ntmps31
  go_wp2_with (go_at_call 42; refine (HC.out _ (by go_grown)).mono ?_; rintro e w' ⟨rfl, hb⟩)
  go_ret2
  exact ⟨rfl, bel_of (by go_grown) hb⟩
theorem count_arg (size f t : Int) (a : Option Addr) (cap : Nat) (l : List Sp) (w : World) (hr : Sps w a l) (hk : chk size l = 0) (ht : ¬ (0 ≤ f ∧ f ≤ t ∧ t ≤ 1099511627776)) :
    Calls Try.prog 31 #[.agg #[.int .i64 size, .slice a l.length cap], .int .i64 f, .int .i64 t] w fun e w' => e = .returned (.tuple #[.int .i64 0, .int .i64 1]) ∧ Below w.heap.size w w' := by
  have hc := fun W (h : Below w.heap.size w W) => check_ok size a cap l W (hr.below h (Nat.le_refl _)) hk
  clear hr hk
  have HC : Hid _ := hc
  clear hc
  have C : ¬ (0 ≤ f ∧ f ≤ t) ∨ (0 ≤ f ∧ f ≤ t ∧ 1099511627776 < t) := by omega
  clear ht
  rcases C with h1 | ⟨h1, h2, h3⟩
  all_goals
    go_enter Try.func31, Try.ntmps31
    go_wp2_with (first | (go_at_call 42; refine (HC.out _ (by go_grown)).mono ?_; rintro e w' ⟨rfl, hb⟩) | (go_at_call 64; go_call (within_yes _ _ _ _) as e w' ⟨rfl, rfl⟩) | (go_at_call 64; go_call (within_no _ _ _ _) as e w' ⟨rfl, rfl⟩))
    go_ret2
    exact ⟨rfl, bel_of (by go_grown) hb⟩
theorem cb_le {size t : Int} {l : List Sp} (hk : chk size l = 0) (ht : 0 ≤ t) (ht2 : t ≤ 1099511627776) : 0 ≤ cb size l t ∧ cb size l t ≤ 2199025000000 := by
  obtain ⟨s1, s2, s3, s4⟩ := chk_zero hk
  obtain ⟨q1, q2, q3, q4, q5, q6, q7, q8⟩ := cb_bd s1 s4 ht
  unfold cb
  omega
set_option maxHeartbeats 400000 in
theorem count_ok (size f t : Int) (a : Option Addr) (cap : Nat) (l : List Sp) (w : World) (hr : Sps w a l) (hk : chk size l = 0) (h1 : 0 ≤ f) (h2 : f ≤ t) (h3 : t ≤ 1099511627776) :
    Calls Try.prog 31 #[.agg #[.int .i64 size, .slice a l.length cap], .int .i64 f, .int .i64 t] w fun e w' => e = .returned (.tuple #[.int .i64 (cb size l t - cb size l f), .int .i64 0]) ∧ Below w.heap.size w w' := by
  have hc := fun W (h : Below w.heap.size w W) => check_ok size a cap l W (hr.below h (Nat.le_refl _)) hk
  have hd := fun u (h1 : 0 ≤ u) (h2 : u ≤ 1099511627776) W (h : Below w.heap.size w W) => cb_any size u a cap l W (hr.below h (Nat.le_refl _)) hk h1 h2
  obtain ⟨b1, b2⟩ := cb_le hk (by omega : 0 ≤ t) h3
  obtain ⟨b3, b4⟩ := cb_le hk h1 (by omega : f ≤ 1099511627776)
  clear hr hk
  have HC : Hid _ := hc
  have HD : Hid _ := hd
  clear hc hd
  go_enter Try.func31, Try.ntmps31
  go_wp2_with (first | (go_at_call 42; refine (HC.out _ (by go_grown)).mono ?_; rintro e w1 ⟨rfl, hb1⟩; have hc1 := (hb1.cell (p := ⟨w.heap.size, 0, none⟩) (by simp)).trans (World.cell?_alloc_at _ _ _ _ rfl); have hc2 := (hb1.cell (p := ⟨w.heap.size, 1, none⟩) (by simp)).trans (World.cell?_alloc_at _ _ _ _ rfl)) | (go_at_call 64; go_call (within_yes _ _ _ _) as e w' ⟨rfl, rfl⟩) | (go_at_call 64; go_call (within_no _ _ _ _) as e w' ⟨rfl, rfl⟩))
  have HB0 : Hid (Below w.heap.size w w') := bel_of (by go_grown) hb1
  have p0 := BelowOf.cell (v := .int .i64 size) hc1
  have p1 := BelowOf.cell (v := .slice a l.length cap) hc2
  clear hb1 hc1 hc2
  refine wp_region_quiet_below (by kernel_rfl) (by kernel_rfl) ?_
  repeat (quiet_step ((rename_i p; refine Calls.below_of p (HD.out _ (by omega) (by omega) _ (bel_of HB0.out p.hb)))))
  refine wpQuiet_nil ?_
  rintro _ ⟨⟨wq, hbq⟩, rfl⟩
  have HBQ : Hid _ := bel_of HB0.out hbq
  clear hbq
  go_wp2_with fail
  go_ret2
  refine ⟨?_, HBQ.out⟩
  simp (disch := omega) only [IntWalk.i64_in]
  rfl
theorem next_err (size t : Int) (a : Option Addr) (cap : Nat) (l : List Sp) (w : World) (hr : Sps w a l) (hk : chk size l ≠ 0) :
    Calls Try.prog 72 #[.agg #[.int .i64 size, .slice a l.length cap], .int .i64 t] w fun e w' => e = .returned (.tuple #[.int .i64 0, .int .i64 (chk size l)]) ∧ Below w.heap.size w w' := by
  have hc := fun W (h : Below w.heap.size w W) => check_any size a cap l W (hr.below h (Nat.le_refl _))
  have hne : (chk size l != 0) = true := by simp [hk]
  clear hr hk
  generalize chk size l = c at hc hne ⊢
  have HC : Hid _ := hc
  clear hc
  go_enter Try.func72, Try.ntmps72
  go_wp2_with (go_at_call 42; refine (HC.out _ (by go_grown)).mono ?_; rintro e w' ⟨rfl, hb⟩)
  go_ret2
  exact ⟨rfl, bel_of (by go_grown) hb⟩
theorem next_arg (size t : Int) (a : Option Addr) (cap : Nat) (l : List Sp) (w : World) (hr : Sps w a l) (hk : chk size l = 0) (ht : ¬ (0 ≤ t ∧ t ≤ 1099511627776)) :
    Calls Try.prog 72 #[.agg #[.int .i64 size, .slice a l.length cap], .int .i64 t] w fun e w' => e = .returned (.tuple #[.int .i64 0, .int .i64 1]) ∧ Below w.heap.size w w' := by
  have hc := fun W (h : Below w.heap.size w W) => check_ok size a cap l W (hr.below h (Nat.le_refl _)) hk
  clear hr hk
  have HC : Hid _ := hc
  clear hc
  go_enter Try.func72, Try.ntmps72
  go_wp2_with (first | (go_at_call 42; refine (HC.out _ (by go_grown)).mono ?_; rintro e w' ⟨rfl, hb⟩) | (go_at_call 64; go_call (within_yes _ _ _ _) as e w' ⟨rfl, rfl⟩) | (go_at_call 64; go_call (within_no _ _ _ _) as e w' ⟨rfl, rfl⟩))
  go_ret2
  exact ⟨rfl, bel_of (by go_grown) hb⟩
theorem next_none (size t : Int) (a : Option Addr) (cap : Nat) (w : World) (hk : chk size [] = 0) (ht : 0 ≤ t) (ht2 : t ≤ 1099511627776) :
    Calls Try.prog 72 #[.agg #[.int .i64 size, .slice a 0 cap], .int .i64 t] w fun e w' => e = .returned (.tuple #[.int .i64 0, .int .i64 7]) ∧ Below w.heap.size w w' := by
  have hc := fun W (h : Below w.heap.size w W) => check_ok size a cap [] W (.inl rfl) hk
  simp only [List.length_nil] at hc
  clear hk
  have HC : Hid _ := hc
  clear hc
  go_enter Try.func72, Try.ntmps72
  go_wp2_with (first | (go_at_call 42; refine (HC.out _ (by go_grown)).mono ?_; rintro e w1 ⟨rfl, hb1⟩; have hc1 := (hb1.cell (p := ⟨w.heap.size, 0, none⟩) (by simp)).trans (World.cell?_alloc_at _ _ _ _ rfl); have hc2 := (hb1.cell (p := ⟨w.heap.size, 1, none⟩) (by simp)).trans (World.cell?_alloc_at _ _ _ _ rfl)) | (go_at_call 64; go_call (within_yes _ _ _ _) as e w' ⟨rfl, rfl⟩) | (go_at_call 64; go_call (within_no _ _ _ _) as e w' ⟨rfl, rfl⟩))
  go_ret2
  exact ⟨rfl, bel_of (by go_grown) hb1⟩
set_option maxHeartbeats 400000 in
theorem next_ok (size t : Int) (a : Option Addr) (cap : Nat) (l : List Sp) (w : World) (hr : Sps w a l) (hk : chk size l = 0) (ht : 0 ≤ t) (ht2 : t ≤ 1099511627776) (hne : l ≠ []) :
    Calls Try.prog 72 #[.agg #[.int .i64 size, .slice a l.length cap], .int .i64 t] w fun e w' => ∃ n, e = .returned (.tuple #[.int .i64 n, .int .i64 0]) ∧ NextP size l t n ∧ Below w.heap.size w w' := by
  have hc := fun W (h : Below w.heap.size w W) => check_ok size a cap l W (hr.below h (Nat.le_refl _)) hk
  obtain ⟨s1, s2, s3, s4⟩ := chk_zero hk
  have m1 := Int.emod_nonneg t (show size ≠ 0 by omega)
  have m2 := Int.emod_lt_of_pos t (show 0 < size by omega)
  have m3 : t % size ≤ t := by
    have m3 := Int.emod_add_mul_ediv t size
    have q0 : 0 ≤ t / size := Int.ediv_nonneg ht (by omega)
    have := Int.mul_nonneg (show 0 ≤ size by omega) q0
    omega
  have HG : Hid _ := good_each s4
  have HS : Hid (good size (-1) l = true) := s4
  have HR : Hid (Sps w a l) := hr
  have hpos : 0 < l.length := List.length_pos_iff.2 hne
  have hnz : ((l.length : Int) == 0) = false := by rw [beq_eq_false_iff_ne]; omega
  clear hr hk s4 hne
  have HC : Hid _ := hc
  clear hc
  go_enter Try.func72, Try.ntmps72
  go_wp2_with (first | (go_at_call 42; refine (HC.out _ (by go_grown)).mono ?_; rintro e w1 ⟨rfl, hb1⟩; have hc1 := (hb1.cell (p := ⟨w.heap.size, 0, none⟩) (by simp)).trans (World.cell?_alloc_at _ _ _ _ rfl); have hc2 := (hb1.cell (p := ⟨w.heap.size, 1, none⟩) (by simp)).trans (World.cell?_alloc_at _ _ _ _ rfl)) | (go_at_call 64; go_call (within_yes _ _ _ _) as e w' ⟨rfl, rfl⟩) | (go_at_call 64; go_call (within_no _ _ _ _) as e w' ⟨rfl, rfl⟩))
  have hb0 : Below (w.heap.size + 1) (w.alloc (.cells #[.int .i64 size, .slice a l.length cap] 25)) w' := by simpa using hb1
  have HB0 : Hid _ := hb0
  clear hb1 hb0 hc1 hc2
  go_loopw [33] (fun v33 wr => ∃ (k : Nat), k ≤ l.length ∧ v33 = .int .i64 k ∧ Hid (∀ x ∈ l.take k, x.2 ≤ t % size) ∧ Below (w.heap.size + 1) (w.alloc (.cells #[.int .i64 size, .slice a l.length cap] 25)) wr) (fun v33 _ => l.length - (intOf v33).toNat)
  case atStart => exact ⟨0, by omega, rfl, by intro x hx; simp at hx, HB0.out⟩
  case round =>
    obtain ⟨k, hk, rfl, hg, hb⟩ := hrel
    have hB : Hid _ := hb
    have hsz := hb.size
    simp only [World.size_alloc] at hsz
    by_cases hlt : k < l.length
    · obtain ⟨b, off, rfl, hbw, d1, d2⟩ := Sps.get HR.out hb k hlt
      have hge := HG.out (l.getD k (0, 0)) (by simp [List.getD, hlt])
      have hd := take_snoc l k hlt
      have hd2 := drop_get l k hlt
      clear hb
      generalize hz : l.getD k (0, 0) = z at d1 d2 hd hge hd2
      obtain ⟨f, e⟩ := z
      have Hd : Hid _ := hd
      have Hd2 : Hid _ := hd2
      clear hz hd hd2
      simp only at d1 d2 hge
      obtain ⟨g1, g2, g3⟩ := hge
      by_cases ho : t % size < e
      · have HF : Hid (NextP size l t (t - t % size + max (t % size) f)) :=
          next_found s1 HS.out (by rw [← Hd2.out, List.take_append_drop]) hg.out ho
        go_wp2_with fail
        all_goals
          go_ret2
          exact ⟨_, rfl, by (first | exact HF.out | (refine cast (congrArg (NextP size l t) ?_) HF.out; omega)), by have := of_alloc hB.out; go_grown⟩
      · have HF : Hid (∀ x ∈ l.take (k + 1), x.2 ≤ t % size) := by
          intro x hx
          rw [Hd.out] at hx
          rcases List.mem_append.1 hx with hx | hx
          · exact hg.out x hx
          · simp at hx; subst hx; simp only; omega
        go_wp2_with fail
        go_roundw
        case rel => exact ⟨k + 1, by omega, by go_num, HF, by have := hB.out; go_grown⟩
        case measure => simp [intOf]; omega
    · obtain ⟨b, off, rfl, hbw, d1, d2⟩ := Sps.get HR.out hb 0 hpos
      have d3 : wr.cell? ⟨w.heap.size, 0, none⟩ = some (.int .i64 size) := (hb.cell (by simp)).trans (World.cell?_alloc_at _ _ _ _ rfl)
      have d4 : wr.cell? ⟨w.heap.size, 1, none⟩ = some (.slice (some ⟨b, off, none⟩) l.length cap) := (hb.cell (by simp)).trans (World.cell?_alloc_at _ _ _ _ rfl)
      have hge := HG.out (l.getD 0 (0, 0)) (by simp [List.getD, hpos])
      have hd := drop_get l 0 hpos
      clear hb
      generalize hz : l.getD 0 (0, 0) = z at d1 d2 hge hd
      obtain ⟨f, e⟩ := z
      have HF : Hid (NextP size l t (t - t % size + size + f)) := by
        rw [List.take_of_length_le (by omega)] at hg
        exact next_round s1 HS.out (by simpa using hd) hg.out
      clear hz hd d2
      simp only [Nat.zero_mul, Nat.add_zero] at d1 hge
      obtain ⟨g1, g2, g3⟩ := hge
      go_wp2_with fail
      go_quiet (fail)
      go_wp2_with fail
      go_ret2
      exact ⟨_, rfl, HF.out, below_drewN (of_alloc hB.out) _⟩
end SpanC
end Go.Proofs.Ytpnahhpkaegeeaa
