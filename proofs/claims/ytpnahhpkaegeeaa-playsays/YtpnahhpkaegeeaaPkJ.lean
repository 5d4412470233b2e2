/- Several texts, one behind the other: PlyA PlyB. -/
import Derived.Test.YtpnahhpkaegeeaaKRowG
import Derived.Test.YtpnahhpkaegeeaaPkE
import Derived.Test.YtpnahhpkaegeeaaPkC
import Derived.Test.YtpnahhpkaegeeaaPkM
import Derived.Deep.RegionHeld3
import Derived.Deep.AppendLies
/- Contracts of package play: within, checkFirst, checkUntil. -/
set_option linter.unusedVariables false
namespace Go.Proofs.Ytpnahhpkaegeeaa
open Go.RowKit hiding tok
open SpanM SpanC TaskM PlayM
open RowsO hiding Tk
namespace PlayC
open TaskC (tk_snoc tk_mem)
open NumC (Row)
theorem Row.below {w w' : World} {a : Option Addr} {l : List Int} {B : Nat} (h : Row w a l) (hb : Below B w w') (hB : w.heap.size ≤ B) : Row w' a l := by
  rcases h with rfl | ⟨b, off, rfl, h⟩
  · exact .inl rfl
  · refine .inr ⟨b, off, rfl, fun i hi => ?_⟩
    have h1 := h i hi
    have hlt := World.block_lt_of_cell? w _ h1
    exact (hb.cell (by simpa using Nat.lt_of_lt_of_le hlt hB)).trans h1
theorem Row.at {w : World} {a : Option Addr} {l : List Int} (h : Row w a l) (k : Nat) (hk : k < l.length) : ∃ b off, a = some ⟨b, off, none⟩ ∧ b < w.heap.size ∧ w.cell? ⟨b, off + k, none⟩ = some (.int .i64 (l.getD k 0)) := by
  rcases h with rfl | ⟨b, off, rfl, h⟩
  · simp at hk
  · exact ⟨b, off, rfl, World.block_lt_of_cell? w _ (h k hk), h k hk⟩
theorem pwithin_yes (x lo hi : Int) (w : World) (h1 : lo ≤ x) (h2 : x ≤ hi) :
    Calls Try.prog 69 #[.int .i64 x, .int .i64 lo, .int .i64 hi] w fun e w' => e = .returned (.bool true) ∧ w' = w := by
  go_enter Try.func69, Try.ntmps69
  go_wp2
  go_ret
  exact ⟨rfl, rfl⟩
theorem pwithin_no (x lo hi : Int) (w : World) (h : ¬ (lo ≤ x ∧ x ≤ hi)) :
    Calls Try.prog 69 #[.int .i64 x, .int .i64 lo, .int .i64 hi] w fun e w' => e = .returned (.bool false) ∧ w' = w := by
  by_cases h1 : lo ≤ x
  · have h2 : ¬ x ≤ hi := fun k => h ⟨h1, k⟩
    clear h
    go_enter Try.func69, Try.ntmps69
    go_wp2
    go_ret
    exact ⟨rfl, rfl⟩
  · clear h
    go_enter Try.func69, Try.ntmps69
    go_wp2
    go_ret
    exact ⟨rfl, rfl⟩
theorem in_snoc (l : List Int) (k : Nat) (h : k < l.length) : l.take (k + 1) = l.take k ++ [l.getD k 0] := by
  rw [List.take_succ_eq_append_getElem h]; simp [List.getD, h]
theorem in_mem {l : List Int} {k : Nat} (h : k < l.length) : l.getD k 0 ∈ l := by simp [List.getD, h]
theorem first_len (a b : Option Addr) (n m cap cap' : Nat) (w : World) (h : m ≠ n) :
    Calls Try.prog 43 #[.slice a n cap, .slice b m cap'] w fun e w' => e = .returned (.int .i64 4) ∧ Below w.heap.size w w' := by
  have hn : ((m : Int) != (n : Int)) = true := by simp; omega
  go_enter Try.func43, Try.ntmps43
  go_wp2_with fail
  go_ret
  exact ⟨rfl, Below.refl _ _⟩
theorem first_list (a b : Option Addr) (cap cap' : Nat) (f : List Int) (w : World) (hr : Row w b f) (hl : f.length ≤ 16) :
    Calls Try.prog 43 #[.slice a f.length cap, .slice b f.length cap'] w fun e w' => e = .returned (.int .i64 (fstG f)) ∧ Below w.heap.size w w' := by
  have hn : ((f.length : Int) != (f.length : Int)) = false := by simp
  have HR := hid hr
  clear hr
  go_enter Try.func43, Try.ntmps43
  go_wp2_with fail
  go_loop [14] (fun v10 => ∃ k : Nat, k ≤ f.length ∧ v10 = .int .i64 k ∧ Hid (∀ x ∈ f.take k, fok x)) (fun v10 => f.length - (intOf v10).toNat)
  case atStart => exact ⟨0, by omega, rfl, by intro x hx; simp at hx⟩
  case round =>
    obtain ⟨k, hk, rfl, hA⟩ := hrel
    by_cases hlt : k < f.length
    · obtain ⟨b, off, rfl, hbw, d1⟩ := Row.at HR.out k hlt
      have hd := in_snoc f k hlt
      have hmem := in_mem hlt
      generalize f.getD k 0 = z at d1 hd hmem
      have Hd := hid hd
      have Hm := hid hmem
      clear hd hmem
      by_cases hP : fok z
      · have HA : Hid (∀ x ∈ f.take (k + 1), fok x) := by
          show ∀ x ∈ _, _
          rw [Hd.out]
          intro x hx
          rcases List.mem_append.1 hx with hx | hx
          · exact hA.out x hx
          · simp at hx; subst hx; exact hP
        obtain ⟨p1, p2⟩ := hP
        go_wp2_with (first | (go_at_call 69; go_call (pwithin_yes _ _ _ _) as e w' ⟨rfl, rfl⟩))
        go_round
        case rel => exact ⟨k + 1, by omega, by go_num, HA⟩
        case measure => simp [intOf]; omega
      · have HF : Hid (fstG f = 4) := by
          show _ = _
          unfold fstG
          rw [if_neg]
          intro h
          exact hP (h _ Hm.out)
        unfold fok at hP
        go_wp2_with (first | (go_at_call 69; go_call (pwithin_no _ _ _ _) as e w' ⟨rfl, rfl⟩))
        go_ret
        exact ⟨SpanC.ret_int HF.out.symm, Below.refl _ _⟩
    · have HF : Hid (fstG f = 0) := by
        show _ = _
        unfold fstG
        rw [if_pos]
        have := hA.out
        rwa [List.take_of_length_le (by omega)] at this
      go_wp2_with fail
      go_ret
      exact ⟨SpanC.ret_int HF.out.symm, Below.refl _ _⟩
theorem first_any (a b : Option Addr) (cap cap' : Nat) (n : Nat) (f : List Int) (w : World) (hr : Row w b f) (hl : n ≤ 16) :
    Calls Try.prog 43 #[.slice a n cap, .slice b f.length cap'] w fun e w' => e = .returned (.int .i64 (fstE n f)) ∧ Below w.heap.size w w' := by
  unfold fstE
  split
  · rename_i h; subst h; exact first_list a b cap cap' f w hr hl
  · exact first_len a b n _ cap cap' w ‹_›
theorem until_arg (a b : Option Addr) (n m cap cap' : Nat) (T : Int) (w : World) (h : ¬ (0 ≤ T ∧ T ≤ 20000)) :
    Calls Try.prog 44 #[.slice a n cap, .slice b m cap', .int .i64 T] w fun e w' => e = .returned (.int .i64 1) ∧ Below w.heap.size w w' := by
  go_enter Try.func44, Try.ntmps44
  go_wp2_with (first | (go_at_call 69; go_call (pwithin_no _ _ _ _) as e w' ⟨rfl, rfl⟩))
  go_ret
  exact ⟨rfl, Below.refl _ _⟩
set_option maxRecDepth 20000 in
set_option maxHeartbeats 800000 in
theorem until_list (P : Pl) (hP : P.Ok) (a b : Option Addr) (cap cap' : Nat) (T : Int) (w : World) (hr : Tks w a P.l) (hf : Row w b P.f) (hl : P.l.length ≤ 16) (hfk : ∀ x ∈ P.f, fok x) (h1 : 0 ≤ T) (h2 : T ≤ 20000) :
    Calls Try.prog 44 #[.slice a P.l.length cap, .slice b P.f.length cap', .int .i64 T] w fun e w' => e = .returned (.int .i64 (P.untG T)) ∧ Below w.heap.size w w' := by
  have HR := hid hr
  have HF := hid hf
  have HP := hid hP
  have HK := hid hfk
  have hlen := hP.len
  have hbd := hid (Pl.jn_bd hP T)
  clear hr hf hP hfk
  go_enter Try.func44, Try.ntmps44
  go_wp2_with (first | (go_at_call 69; go_call (pwithin_yes _ _ _ _) as e w' ⟨rfl, hw⟩; replace hw := hw.symm; subst hw))
  go_loopw [7, 15] (fun v7 v15 wr => ∃ (k : Nat) (c : Int), k ≤ P.l.length ∧ v7 = .int .i64 c ∧ v15 = .int .i64 k ∧ Hid (c = ((P.jn T k).length : Int)) ∧ 0 ≤ c ∧ c ≤ k * 20000 ∧ Below w.heap.size w wr) (fun _ v15 _ => P.l.length - (intOf v15).toNat)
  case atStart => exact ⟨0, 0, by omega, rfl, rfl, rfl, by omega, by omega, Below.refl _ _⟩
  case round =>
    obtain ⟨k, c, hk, rfl, rfl, hA, c0, c1, hb⟩ := hrel
    have HB := hid hb
    have hsz := hb.size
    by_cases hlt : k < P.l.length
    · obtain ⟨p, off, rfl, hbw, d1, d2, d3⟩ := (HR.out.below hb (Nat.le_refl _)).at k hlt
      obtain ⟨q, off2, rfl, hbw2, d4⟩ := Row.at (Row.below HF.out hb (Nat.le_refl _)) k (by omega)
      have hz : zTk = (0, 0, 0) := rfl
      have ht := HP.out.at hlt
      have hce := Pl.cnt_eq HP.out hlt T
      have hcl := Pl.cnt_le HP.out hlt T
      have hfm := HK.out _ (in_mem (show k < P.f.length by omega))
      rw [Pl.tk_at] at ht hce
      rw [hz] at d1 d2 d3
      clear hb
      generalize P.l.getD k (0, 0, 0) = z at d1 d2 d3 ht hce
      obtain ⟨m, e, d⟩ := z
      generalize P.f.getD k 0 = f at d4 hfm hce
      obtain ⟨p1, p2, p3, p4, p5, p6⟩ := ht
      obtain ⟨f1, f2⟩ := hfm
      simp only at d1 d2 d3 p1 p2 p3 p4 p5 p6 hce
      generalize hJ : P.cnt k T = J at hce hcl
      have HD : Hid (c + (J : Int) = ((P.jn T (k + 1)).length : Int)) := by
        show _ = _
        rw [Pl.jn_len, hJ, hA.out]; omega
      have hJb : (J : Int) ≤ 20000 := by omega
      have hJ0 : (0 : Int) ≤ J := by omega
      generalize (J : Int) = q1 at *
      have hmx : max 0 (T - f) ≤ 20000 ∧ 0 ≤ max 0 (T - f) := by omega
      obtain ⟨x1, x2⟩ := id hmx
      have x3 : 0 ≤ max 0 (T - f) + e - 1 := by omega
      have ez : (e == 0) = false := by simp; omega
      have ez2 : e ≠ 0 := by omega
      have hce2 := hce.symm
      clear hJ hce hz hcl hlen
      have HC1 := hid c1
      have c2 : c ≤ 320000 := by omega
      have HX := hid hmx
      clear c1 hmx
      have hs1 : IntKind.i64.wrap (T - f) = T - f := by rw [IntKind.wrap_i64]; omega
      go_wp2_with fail
      go_quiet (fail)
      go_wp2_with fail
      go_roundw
      case rel => exact ⟨k + 1, _, by omega, rfl, by go_num, by first | exact HD | (show _ = _; have := HD.out; omega), by omega, by have := HC1.out; omega, below_drewN (HB.out.alloc hsz _) _⟩
      case measure => simp [intOf]; omega
    · obtain rfl : k = P.l.length := by omega
      rw [Pl.jn_all] at hA
      clear hb
      by_cases hm : 2000 < c
      · have HU : Hid (P.untG T = 2) := by
          show _ = _
          unfold Pl.untG
          rw [if_pos]; have := hA.out; omega
        go_wp2_with fail
        go_ret
        exact ⟨SpanC.ret_int HU.out.symm, HB.out⟩
      · have HU : Hid (P.untG T = 0) := by
          show _ = _
          unfold Pl.untG
          rw [if_neg]; have := hA.out; omega
        go_wp2_with fail
        go_ret
        exact ⟨SpanC.ret_int HU.out.symm, HB.out⟩
theorem until_any (P : Pl) (hP : P.Ok) (a b : Option Addr) (cap cap' : Nat) (T : Int) (w : World) (hr : Tks w a P.l) (hf : Row w b P.f) (hl : P.l.length ≤ 16) (hfk : ∀ x ∈ P.f, fok x) :
    Calls Try.prog 44 #[.slice a P.l.length cap, .slice b P.f.length cap', .int .i64 T] w fun e w' => e = .returned (.int .i64 (P.untE T)) ∧ Below w.heap.size w w' := by
  unfold Pl.untE
  split
  · rename_i h; exact until_list P hP a b cap cap' T w hr hf hl hfk h.1 h.2
  · exact until_arg a b _ _ cap cap' T w ‹_›
end PlayC
end Go.Proofs.Ytpnahhpkaegeeaa

/- Contracts of package play: jobsOf. -/
set_option linter.unusedVariables false
namespace Go.Proofs.Ytpnahhpkaegeeaa
open Go.RowKit hiding tok
open SpanM SpanC TaskM PlayM
open RowsO hiding Tk
namespace PlayC
open TaskC (tk_snoc tk_mem)
open NumC (Row)
open RowG
/-- a job: task, number, came, at, due, left, rank -/
structure Jb where
  t : Int
  k : Int
  c : Int
  a : Int
  d : Int
  f : Int
  r : Int
def EJ : Enc Jb := ⟨fun x => [.int .i64 x.t, .int .i64 x.k, .int .i64 x.c, .int .i64 x.a, .int .i64 x.d, .int .i64 x.f, .int .i64 x.r], 7, fun _ => rfl, fun x u hu => by simp at hu; rcases hu with rfl | rfl | rfl | rfl | rfl | rfl | rfl <;> rfl⟩
def ED : Enc Pl.Dn := ⟨fun x => [.int .i64 x.1, .int .i64 x.2.1, .int .i64 x.2.2.1, .int .i64 x.2.2.2], 4, fun _ => rfl, fun x u hu => by simp at hu; rcases hu with rfl | rfl | rfl | rfl <;> rfl⟩
def EL : Enc (Int × Int) := ⟨fun x => [.int .i64 x.1, .int .i64 x.2], 2, fun _ => rfl, fun x u hu => by simp at hu; rcases hu with rfl | rfl <;> rfl⟩
abbrev OwnJ := Own EJ 83
abbrev OwnD := Own ED 40
abbrev OwnL := Own EL 47
theorem infoJ : (Try.prog.info? 83).map (fun i => (i.zero, i.size, i.bytes)) = some (some (.agg #[.int .i64 0, .int .i64 0, .int .i64 0, .int .i64 0, .int .i64 0, .int .i64 0, .int .i64 0]), 7, 56) := by kernel_rfl
theorem infoD : (Try.prog.info? 40).map (fun i => (i.zero, i.size, i.bytes)) = some (some (.agg #[.int .i64 0, .int .i64 0, .int .i64 0, .int .i64 0]), 4, 32) := by kernel_rfl
theorem infoL : (Try.prog.info? 47).map (fun i => (i.zero, i.size, i.bytes)) = some (some (.agg #[.int .i64 0, .int .i64 0]), 2, 16) := by kernel_rfl
/-- a box of another type is another block -/
theorem own_ne {α : Type} {E : Enc α} {T T' bx B : Nat} {w : World} {v : Value} {l : List α} {c : Array Value} {z : Nat × Nat} (h : Own E T w B v l) (hb : w.heap[bx]? = some (.cells c T' z)) (hT : T' ≠ T) : some bx ≠ v.ownBlock := by
  rcases h.2 with ⟨rfl, _⟩ | ⟨g, cap, cur, rfl, _, hg, _⟩
  · simp [Value.ownBlock]
  · intro e
    simp only [Value.ownBlock, Option.some.injEq] at e
    rw [e, hg] at hb
    injection hb with hb
    injection hb with _ h2 _
    exact hT h2.symm
theorem box_cell {w : World} {bx T : Nat} {c : Array Value} {z : Nat × Nat} (h : w.heap[bx]? = some (.cells c T z)) (j : Nat) : w.cell? ⟨bx, j, none⟩ = c[j]? := by
  simp [World.cell?, h]
theorem box_below {w w' : World} {bx T B : Nat} {c : Array Value} {z : Nat × Nat} (h : w.heap[bx]? = some (.cells c T z)) (hb : Below B w w') (hB : w.heap.size ≤ B) : w'.heap[bx]? = some (.cells c T z) := by
  have := (Array.getElem?_eq_some_iff.1 h).1
  rw [hb.block bx (by omega), h]
theorem box_grown {w w' : World} {bx T : Nat} {row : Option Nat} {c : Array Value} {z : Nat × Nat} (h : w.heap[bx]? = some (.cells c T z)) (hb : w.grownBy w' row) (hn : some bx ≠ row) : w'.heap[bx]? = some (.cells c T z) := by
  have := (Array.getElem?_eq_some_iff.1 h).1
  rw [hb.block bx this hn, h]
theorem box_alloc {w : World} {bx T : Nat} {c : Array Value} {z : Nat × Nat} (h : w.heap[bx]? = some (.cells c T z)) (o : Obj) : (w.alloc o).heap[bx]? = some (.cells c T z) := by
  have := (Array.getElem?_eq_some_iff.1 h).1
  show (w.heap.push o)[bx]? = _
  rw [Array.getElem?_push, if_neg (by omega), h]
theorem box_new (w : World) (c : Array Value) (T : Nat) : (w.alloc (.cells c T)).heap[w.heap.size]? = some (.cells c T) := heap_alloc_new w _
theorem own_alloc {α : Type} {E : Enc α} {T B : Nat} {w : World} {v : Value} {l : List α} (h : Own E T w B v l) (o : Obj) : Own E T (w.alloc o) B v l := World.ownsRow.alloc h o
/-- the job of a task, as it comes -/
def jb (P : Pl) (b : Nat × Nat) : Jb := ⟨b.1, b.2, P.cm b.1 b.2, 0, P.du b.1 b.2, (P.tk b.1).1, 0⟩
theorem cm_succ (P : Pl) (i k : Nat) : P.cm i (k + 1) = P.cm i k + (P.tk i).2.1 := by
  unfold Pl.cm
  rw [Int.natCast_add, Int.add_mul]; simp; omega
theorem cm_zero (P : Pl) (i : Nat) : P.cm i 0 = P.f.getD i 0 := by unfold Pl.cm; simp
set_option maxRecDepth 20000 in
set_option maxHeartbeats 1600000 in
theorem jobsOf_any (P : Pl) (hP : P.Ok) (a b : Option Addr) (cap cap' : Nat) (T : Int) (w : World) (hr : Tks w a P.l) (hf : Row w b P.f) (hl : P.l.length ≤ 16) (hfk : ∀ x ∈ P.f, fok x) (h1 : 0 ≤ T) (h2 : T ≤ 20000) :
    Calls Try.prog 45 #[.slice a P.l.length cap, .slice b P.f.length cap', .int .i64 T] w fun e w' => (∃ v, e = .returned v ∧ OwnJ w' w.heap.size v ((P.jobsL T).map (jb P))) ∧ Below w.heap.size w w' := by
  obtain ⟨i0, hi, hz0, hz1, hz2⟩ := info_parts infoJ
  have Hi := hid hi
  have Hz0 := hid hz0
  have Hz1 := hid hz1
  have Hz2 := hid hz2
  clear hi hz0 hz1 hz2
  have HR := hid hr
  have HF := hid hf
  have HP := hid hP
  have HK := hid hfk
  have HL := hid hP.len
  have hbd := hid (Pl.jn_bd hP T)
  have HTN := hid (show T.toNat ≤ 20000 by omega)
  clear hr hf hP hfk
  go_enter Try.func45, Try.ntmps45
  go_wp2_with fail
  go_loopw [7, 15] (fun v7 v15 wr => ∃ (i : Nat), i ≤ P.l.length ∧ v15 = .int .i64 i ∧ OwnJ wr w.heap.size v7 ((P.jn T i).map (jb P)) ∧ Below w.heap.size w wr) (fun _ v15 _ => P.l.length - (intOf v15).toNat)
  case atStart => exact ⟨0, by omega, rfl, Own.nil _ _ _ _, Below.refl _ _⟩
  case round =>
    obtain ⟨i, hk, rfl, ho, hb⟩ := hrel
    have HB := hid hb
    have hsz := hb.size
    have HO := hid ho
    obtain ⟨p7, c7, hv7⟩ := ho.slice
    by_cases hlt : i < P.l.length
    · obtain ⟨p, off, rfl, hbw, d1, d2, d3⟩ := (HR.out.below hb (Nat.le_refl _)).at i hlt
      obtain ⟨q, off2, rfl, hbw2, d4⟩ := Row.at (Row.below HF.out hb (Nat.le_refl _)) i (by have := HL.out; omega)
      have hz : zTk = (0, 0, 0) := rfl
      have ht := HP.out.at hlt
      have hcz := cm_zero P i
      have hcs := cm_succ P i
      have hfm := HK.out _ (in_mem (show i < P.f.length by have := HL.out; omega))
      have hjb : ∀ k, jb P (i, k) = ⟨i, k, P.cm i k, 0, P.cm i k + (P.tk i).2.2, (P.tk i).1, 0⟩ := fun k => rfl
      have HCI := hid (fun k => Pl.cnt_iff HP.out hlt T k)
      have HLE := hid (fun k => (HP.out.come hlt k).1)
      have HCL := hid (Pl.cnt_le HP.out hlt T)
      have HJN := hid (hbd.out i (by omega))
      rw [hz] at d1 d2 d3
      rw [← Pl.tk_at] at d1 d2 d3
      clear hb ho hz
      generalize P.tk i = z at d1 d2 d3 ht hcs hjb
      obtain ⟨m, e, d⟩ := z
      generalize P.f.getD i 0 = f at d4 hfm hcz
      obtain ⟨p1, p2, p3, p4, p5, p6⟩ := ht
      obtain ⟨f1, f2⟩ := hfm
      simp only at d1 d2 d3 p1 p2 p3 p4 p5 p6 hcs hjb
      have HCZ := hid hcz
      have HCS := hid hcs
      have HJB := hid hjb
      have hsz1 : w.heap.size ≤ wr.heap.size := hsz
      have hif : (i : Int) < (P.f.length : Int) := by have := HL.out; omega
      clear hcz hcs hjb
      subst hv7
      go_wp2_with fail
      obtain ⟨w0, hw0⟩ : ∃ x, x = wr := ⟨_, rfl⟩
      subst hw0
      go_loopw [7, 10, 11] (fun v7 v10 v11 wr => ∃ (k : Nat) (c : Int), k ≤ P.cnt i T ∧ v10 = .int .i64 c ∧ v11 = .int .i64 k ∧ Hid (c = P.cm i k) ∧ OwnJ wr w.heap.size v7 ((P.jk T i k).map (jb P)) ∧ Below w.heap.size w wr ∧ wr.heap[w0.heap.size]? = some (.cells #[.int .i64 m, .int .i64 e, .int .i64 d] 67)) (fun _ _ v11 _ => P.cnt i T - (intOf v11).toNat)
      case atStart => exact ⟨0, f, by omega, rfl, rfl, HCZ.out.symm, by rw [Pl.jk_zero]; exact own_alloc HO.out _, HB.out.alloc hsz1 _, box_new _ _ _⟩
      case round =>
        obtain ⟨k, c, hk2, rfl, rfl, hC, ho, hb, hbx⟩ := hrel
        have HB2 := hid hb
        have hsz2 := hb.size
        have HO2 := hid ho
        have HX := hid hbx
        obtain ⟨p8, c8, hv8⟩ := ho.slice
        subst hv8
        have x0 := box_cell hbx 0
        have x1 := box_cell hbx 1
        have x2 := box_cell hbx 2
        have hbxl := (Array.getElem?_eq_some_iff.1 hbx).1
        simp at x0 x1 x2
        have hkT : (k : Int) ≤ 20000 := by have := HCL.out; have := HTN.out; omega
        clear hb ho hbx
        by_cases hct : c < T
        · have hkc : k < P.cnt i T := (HCI.out k).2 (by rw [← hC.out]; exact hct)
          have hc0 : 0 ≤ c := by have := HLE.out k; have := hC.out; omega
          have HE : Hid ((P.jk T i (k + 1)).map (jb P) = (P.jk T i k).map (jb P) ++ [⟨i, k, c, 0, c + d, m, 0⟩]) := by
            show _ = _
            rw [Pl.jk_succ, List.map_append, List.map_singleton, HJB.out, hC.out]
          have HE2 : Hid (c + e = P.cm i (k + 1)) := by
            show _ = _
            rw [HCS.out, hC.out]
          have hlen : ((P.jk T i k).map (jb P)).length ≤ 400000 := by
            rw [List.length_map, Pl.jk_len]
            have h5 := HJN.out
            have : i * T.toNat ≤ 16 * 20000 := Nat.mul_le_mul (by omega) HTN.out
            omega
          generalize (P.jk T i k).map (jb P) = Z at *
          go_wp2_with (at_builtin; refine wpList_append_own _ rfl _ _ 79 rfl w.heap.size 83 i0 (.agg #[.int .i64 0, .int .i64 0, .int .i64 0, .int .i64 0, .int .i64 0, .int .i64 0, .int .i64 0]) 7 56 Try.underlying79 Hi.out Hz0.out Hz1.out Hz2.out rfl (by decide) _ Z.length (EJ.flat Z) rfl ?qc0 ⟨wr.heap.size + 1, 0, none⟩ 1 1 (EJ.enc ⟨i, k, c, 0, c + d, m, 0⟩) ?qcx ?qc1 ?qc2 ?qc3 ?qc4 ?qc5 ?qc6 ?_)
          case qc0 => exact World.ownsRow.alloc (World.ownsRow.alloc HO2.out _) _
          case qcx => rfl
          case qc1 => rfl
          case qc2 =>
            intro j u hj
            match j, hj with
            | 0, hj => simp [EJ] at hj; subst hj; exact World.cell?_alloc_at _ _ _ _ (by simp)
            | 1, hj => simp [EJ] at hj; subst hj; exact World.cell?_alloc_at _ _ _ _ (by simp)
            | 2, hj => simp [EJ] at hj; subst hj; exact World.cell?_alloc_at _ _ _ _ (by simp)
            | 3, hj => simp [EJ] at hj; subst hj; exact World.cell?_alloc_at _ _ _ _ (by simp)
            | 4, hj => simp [EJ] at hj; subst hj; exact World.cell?_alloc_at _ _ _ _ (by simp)
            | 5, hj => simp [EJ] at hj; subst hj; exact World.cell?_alloc_at _ _ _ _ (by simp)
            | 6, hj => simp [EJ] at hj; subst hj; exact World.cell?_alloc_at _ _ _ _ (by simp)
            | j + 7, hj => simp [EJ] at hj
          case qc3 => exact EJ.h1 _
          case qc4 => unfold maxLen; omega
          case qc5 => omega
          case qc6 => simp; omega
          intro v' w1 hown hgrow hnil
          have HO3 : Hid (OwnJ w1 w.heap.size v' (Z ++ [⟨i, k, c, 0, c + d, m, 0⟩])) := own_snoc hown rfl rfl
          have HB3 := hid (HB2.out.trans (Below.grown (Below.alloc (Below.alloc (Below.refl w.heap.size wr) hsz2 (.cells #[.int .i64 i, .int .i64 k, .int .i64 c, .int .i64 0] 40)) (by simp; omega) (.cells (EJ.enc ⟨i, k, c, 0, c + d, m, 0⟩).toArray 83)) hgrow (by simp; omega) (fun k hk => (World.ownsRow.lt HO2.out k hk).1)))
          have HX3 : Hid (w1.heap[w0.heap.size]? = some (.cells #[.int .i64 m, .int .i64 e, .int .i64 d] 67)) := box_grown (box_alloc (box_alloc HX.out _) _) hgrow (own_ne HO2.out HX.out (by decide))
          obtain ⟨p9, c9, hv9⟩ := HO3.out.slice
          subst hv9
          have y0 := box_cell HX3.out 0
          have y1 := box_cell HX3.out 1
          have y2 := box_cell HX3.out 2
          simp at y0 y1 y2
          clear hown hgrow hnil x0 x1 x2
          go_wp2_with fail
          go_roundw
          case rel => exact ⟨k + 1, c + e, by omega, by go_num, by go_num, HE2, by rw [HE.out]; exact HO3.out, HB3.out, HX3.out⟩
          case measure => simp [intOf]; omega
        · have hkc : k = P.cnt i T := by
            have := (HCI.out k).1
            by_cases h : k < P.cnt i T
            · have := this h; rw [← hC.out] at this; omega
            · omega
          have HO4 : Hid (OwnJ wr w.heap.size (.slice p8 ((P.jk T i k).map (jb P)).length c8) ((P.jn T (i + 1)).map (jb P))) := by
            show OwnJ _ _ _ _
            rw [Pl.jn_succ, ← hkc]; exact HO2.out
          clear x0 x1 x2
          generalize ((P.jk T i k).map (jb P)).length = n8 at *
          go_wp2_with fail
          go_roundw
          case rel => exact ⟨i + 1, by omega, by go_num, HO4.out, HB2.out⟩
          case measure => simp [intOf]; omega
    · obtain rfl : i = P.l.length := by omega
      rw [Pl.jn_all] at HO
      clear hb ho
      subst hv7
      go_wp2_with fail
      go_ret
      exact ⟨⟨_, rfl, HO.out⟩, HB.out⟩
end PlayC
end Go.Proofs.Ytpnahhpkaegeeaa
