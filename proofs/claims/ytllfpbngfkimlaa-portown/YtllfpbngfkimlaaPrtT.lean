/- The document's own answers about ports: PortDone (gen_prtt.py writes this text). -/
import Derived.Test.YtllfpbngfkimlaaPrtS
import Derived.Deep.RegionHeld3
set_option linter.unusedVariables false
namespace Go.Proofs.Ytllfpbngfkimlaa
open Go.RowKit
open Go.Shelf Go.Sort
open SpanM SpanC IntsC
namespace PortC
open PrtM
/-- PortDone's boxes: the port, the op, and two of what it answers; and (q) the port behind the op -/
structure D3 (w W : World) (p o r t : Array Value) : Prop where
  p : W.heap[w.heap.size]? = some (.cells p 36)
  o : W.heap[w.heap.size + 1]? = some (.cells o 48)
  r : W.heap[w.heap.size + 1 + 1]? = some (.cells r 36)
  t : W.heap[w.heap.size + 1 + 1 + 1]? = some (.cells t 44)
  b : Below w.heap.size w W
abbrev al4 (w : World) (p o r t : Array Value) : World := (((w.alloc (.cells p 36)).alloc (.cells o 48)).alloc (.cells r 36)).alloc (.cells t 44)
theorem D3.start4 (w : World) (p o r t : Array Value) : D3 w ((((w.alloc (.cells p 36)).alloc (.cells o 48)).alloc (.cells r 36)).alloc (.cells t 44)) p o r t := by
  obtain ⟨h, _, _⟩ := alN [.cells p 36, .cells o 48, .cells r 36, .cells t 44] w
  exact ⟨h 0 (by simp), h 1 (by simp), h 2 (by simp), h 3 (by simp), alN_below [.cells p 36, .cells o 48, .cells r 36, .cells t 44] w⟩
theorem D3.step {w W V : World} {p o r t : Array Value} (h : D3 w W p o r t) (k : Below W.heap.size W V) : D3 w V p o r t :=
  ⟨box_below h.p k (Nat.le_refl _), box_below h.o k (Nat.le_refl _), box_below h.r k (Nat.le_refl _), box_below h.t k (Nat.le_refl _), bel_of h.b k⟩
theorem D3.alloc {w W : World} {p o r t : Array Value} (h : D3 w W p o r t) (ob : Obj) : D3 w (W.alloc ob) p o r t := h.step ((Below.refl _ W).alloc (Nat.le_refl _) ob)
theorem D3.fin {w W : World} {p o : Array Value} {z0 z1 z2 z3 z4 z5 y0 y1 y2 : Value} (h : D3 w W p o #[z0, z1, z2, z3, z4, z5] #[y0, y1, y2]) (x0 x1 x2 x3 x4 x5 u0 u1 u2 : Value) :
    (st3 (st6 W (w.heap.size + 1 + 1) x0 x1 x2 x3 x4 x5) (w.heap.size + 1 + 1 + 1) u0 u1 u2).heap[w.heap.size + 1 + 1]? = some (.cells #[x0, x1, x2, x3, x4, x5] 36) ∧ (st3 (st6 W (w.heap.size + 1 + 1) x0 x1 x2 x3 x4 x5) (w.heap.size + 1 + 1 + 1) u0 u1 u2).heap[w.heap.size + 1 + 1 + 1]? = some (.cells #[u0, u1, u2] 44) ∧ Below w.heap.size w (st3 (st6 W (w.heap.size + 1 + 1) x0 x1 x2 x3 x4 x5) (w.heap.size + 1 + 1 + 1) u0 u1 u2) :=
  ⟨(st3_other _ _ _ (by omega)).trans (st6_heap h.r), st3_heap ((st6_other _ _ _ _ _ _ (by omega)).trans h.t), st3_below (st6_below h.b (by omega)) (by omega)⟩
set_option maxRecDepth 20000 in
set_option maxHeartbeats 800000 in
theorem pd_kind (kd k sz rm fr tm now : Int) (a : Option Addr) (n c : Nat) (s : ByteArray) (w : World) (h1 : ¬ (1 ≤ k ∧ k ≤ 2)) :
    Calls Try.prog 20 #[.agg #[.int .i64 kd, .int .i64 sz, .int .i64 rm, .int .i64 fr, .slice a n c, .int .i64 tm], .agg #[.int .i64 k, .int .i64 now, .string s]] w fun e w' => e = .returned (.tuple #[.agg #[.int .i64 kd, .int .i64 sz, .int .i64 rm, .int .i64 fr, .slice a n c, .int .i64 tm], .agg #[.string e0, .bool false, .int .i64 1]]) ∧ Below w.heap.size w w' := by
  have H1 := hid (fun wx => bet_no k 1 2 wx h1)
  clear h1
  have X0 := hid (D3.start4 w #[.int .i64 kd, .int .i64 sz, .int .i64 rm, .int .i64 fr, .slice a n c, .int .i64 tm] #[.int .i64 k, .int .i64 now, .string s] #[.int .i64 0, .int .i64 0, .int .i64 0, .int .i64 0, .slice none 0 0, .int .i64 0] #[.string e0, .bool false, .int .i64 0])
  go_enter Try.func20, Try.ntmps20
  go_wp2_with (first | (go_at_call 12; (with_reducible refine (H1.out _).mono ?_); rintro e wb ⟨rfl, rfl⟩) | (go_at_call 44; refine (wrong_any w.heap.size _ _ _ _ _ _ _ _ _ _ X0.out.p).mono ?_; rintro e w2 ⟨rfl, b2⟩; have X4 := hid (X0.out.step b2); obtain ⟨r0, r1, r2, r3, r4, r5⟩ := six_of X4.out.r; obtain ⟨s0, s1, s2⟩ := three_of X4.out.t; have m0 := froz_of X4.out.r 0; have m1 := froz_of X4.out.r 1; have m2 := froz_of X4.out.r 2; have m3 := froz_of X4.out.r 3; have m4 := froz_of X4.out.r 4; have m5 := froz_of X4.out.r 5; have k0 := froz_of X4.out.t 0; have k1 := froz_of X4.out.t 1; have k2 := froz_of X4.out.t 2; clear b2))
  obtain ⟨w7, hw7⟩ : ∃ y, y = st3 (st6 w2 (w.heap.size + 1 + 1) (.int .i64 kd) (.int .i64 sz) (.int .i64 rm) (.int .i64 fr) (.slice a n c) (.int .i64 tm)) (w.heap.size + 1 + 1 + 1) (.string e0) (.bool false) (.int .i64 1) := ⟨_, rfl⟩
  have hw8 := hw7
  simp only [st6, st3] at hw8
  rw [← hw8]
  clear hw8
  obtain ⟨f1, f2, f3⟩ := D3.fin X4.out (.int .i64 kd) (.int .i64 sz) (.int .i64 rm) (.int .i64 fr) (.slice a n c) (.int .i64 tm) (.string e0) (.bool false) (.int .i64 1)
  have HR1 : Hid (Sem.run Try.prog (loadVar 36 ⟨w.heap.size + 1 + 1, 0, none⟩) w7 = .ok (.agg #[.int .i64 kd, .int .i64 sz, .int .i64 rm, .int .i64 fr, .slice a n c, .int .i64 tm]) w7) := by
    refine load_port ?_
    rw [hw7]
    exact f1
  have HR2 : Hid (Sem.run Try.prog (loadVar 44 ⟨w.heap.size + 1 + 1 + 1, 0, none⟩) w7 = .ok (.agg #[.string e0, .bool false, .int .i64 1]) w7) := by
    refine load_ans ?_
    rw [hw7]
    exact f2
  have HB7 : Hid (Below w.heap.size w w7) := by rw [hw7]; exact f3
  (try simp only [Exit.inBlock, Exit.then])
  refine bodyPost_ret (by simp [results, Try.results20]; rw [as_addr, Result.andThen_ok, HR1.out, Result.andThen_ok, as_addr, Result.andThen_ok, HR2.out, Result.andThen_ok]) rfl ?_
  exact ⟨rfl, HB7.out⟩
set_option maxRecDepth 20000 in
set_option maxHeartbeats 800000 in
theorem pd_now (kd k sz rm fr tm now : Int) (a : Option Addr) (n c : Nat) (s : ByteArray) (w : World) (h1 : 1 ≤ k ∧ k ≤ 2) (h2 : ¬ (tm ≤ now ∧ now ≤ 1099511627776)) :
    Calls Try.prog 20 #[.agg #[.int .i64 kd, .int .i64 sz, .int .i64 rm, .int .i64 fr, .slice a n c, .int .i64 tm], .agg #[.int .i64 k, .int .i64 now, .string s]] w fun e w' => e = .returned (.tuple #[.agg #[.int .i64 kd, .int .i64 sz, .int .i64 rm, .int .i64 fr, .slice a n c, .int .i64 tm], .agg #[.string e0, .bool false, .int .i64 1]]) ∧ Below w.heap.size w w' := by
  have H1 := hid (fun wx => bet_yes k 1 2 wx h1)
  have H2 := hid (fun wx => bet_no now tm 1099511627776 wx h2)
  clear h1 h2
  have X0 := hid (D3.start4 w #[.int .i64 kd, .int .i64 sz, .int .i64 rm, .int .i64 fr, .slice a n c, .int .i64 tm] #[.int .i64 k, .int .i64 now, .string s] #[.int .i64 0, .int .i64 0, .int .i64 0, .int .i64 0, .slice none 0 0, .int .i64 0] #[.string e0, .bool false, .int .i64 0])
  go_enter Try.func20, Try.ntmps20
  go_wp2_with (first | (go_at_call 12; (with_reducible refine (H1.out _).mono ?_); rintro e wb ⟨rfl, rfl⟩) | (go_at_call 12; (with_reducible refine (H2.out _).mono ?_); rintro e wb ⟨rfl, rfl⟩) | (go_at_call 44; refine (wrong_any w.heap.size _ _ _ _ _ _ _ _ _ _ X0.out.p).mono ?_; rintro e w2 ⟨rfl, b2⟩; have X4 := hid (X0.out.step b2); obtain ⟨r0, r1, r2, r3, r4, r5⟩ := six_of X4.out.r; obtain ⟨s0, s1, s2⟩ := three_of X4.out.t; have m0 := froz_of X4.out.r 0; have m1 := froz_of X4.out.r 1; have m2 := froz_of X4.out.r 2; have m3 := froz_of X4.out.r 3; have m4 := froz_of X4.out.r 4; have m5 := froz_of X4.out.r 5; have k0 := froz_of X4.out.t 0; have k1 := froz_of X4.out.t 1; have k2 := froz_of X4.out.t 2; clear b2))
  obtain ⟨w7, hw7⟩ : ∃ y, y = st3 (st6 w2 (w.heap.size + 1 + 1) (.int .i64 kd) (.int .i64 sz) (.int .i64 rm) (.int .i64 fr) (.slice a n c) (.int .i64 tm)) (w.heap.size + 1 + 1 + 1) (.string e0) (.bool false) (.int .i64 1) := ⟨_, rfl⟩
  have hw8 := hw7
  simp only [st6, st3] at hw8
  rw [← hw8]
  clear hw8
  obtain ⟨f1, f2, f3⟩ := D3.fin X4.out (.int .i64 kd) (.int .i64 sz) (.int .i64 rm) (.int .i64 fr) (.slice a n c) (.int .i64 tm) (.string e0) (.bool false) (.int .i64 1)
  have HR1 : Hid (Sem.run Try.prog (loadVar 36 ⟨w.heap.size + 1 + 1, 0, none⟩) w7 = .ok (.agg #[.int .i64 kd, .int .i64 sz, .int .i64 rm, .int .i64 fr, .slice a n c, .int .i64 tm]) w7) := by
    refine load_port ?_
    rw [hw7]
    exact f1
  have HR2 : Hid (Sem.run Try.prog (loadVar 44 ⟨w.heap.size + 1 + 1 + 1, 0, none⟩) w7 = .ok (.agg #[.string e0, .bool false, .int .i64 1]) w7) := by
    refine load_ans ?_
    rw [hw7]
    exact f2
  have HB7 : Hid (Below w.heap.size w w7) := by rw [hw7]; exact f3
  (try simp only [Exit.inBlock, Exit.then])
  refine bodyPost_ret (by simp [results, Try.results20]; rw [as_addr, Result.andThen_ok, HR1.out, Result.andThen_ok, as_addr, Result.andThen_ok, HR2.out, Result.andThen_ok]) rfl ?_
  exact ⟨rfl, HB7.out⟩
set_option maxRecDepth 20000 in
set_option maxHeartbeats 800000 in
theorem pd_large (kd sz rm fr tm now : Int) (a : Option Addr) (n c : Nat) (s : ByteArray) (w : World) (h2 : tm ≤ now ∧ now ≤ 1099511627776) (h3 : sz < (s.size : Int)) :
    Calls Try.prog 20 #[.agg #[.int .i64 kd, .int .i64 sz, .int .i64 rm, .int .i64 fr, .slice a n c, .int .i64 tm], .agg #[.int .i64 1, .int .i64 now, .string s]] w fun e w' => e = .returned (.tuple #[.agg #[.int .i64 kd, .int .i64 sz, .int .i64 rm, .int .i64 fr, .slice a n c, .int .i64 tm], .agg #[.string e0, .bool false, .int .i64 2]]) ∧ Below w.heap.size w w' := by
  have H1 := hid (fun wx => bet_yes 1 1 2 wx (by decide))
  have H2 := hid (fun wx => bet_yes now tm 1099511627776 wx h2)
  clear h2
  have X0 := hid (D3.start4 w #[.int .i64 kd, .int .i64 sz, .int .i64 rm, .int .i64 fr, .slice a n c, .int .i64 tm] #[.int .i64 1, .int .i64 now, .string s] #[.int .i64 0, .int .i64 0, .int .i64 0, .int .i64 0, .slice none 0 0, .int .i64 0] #[.string e0, .bool false, .int .i64 0])
  have X1 := hid (X0.out.alloc (.cells #[.int .i64 kd, .int .i64 sz, .int .i64 rm, .int .i64 fr, .slice a n c, .int .i64 tm] 36))
  go_enter Try.func20, Try.ntmps20
  go_wp2_with (first | (go_at_call 12; (with_reducible refine (H1.out _).mono ?_); rintro e wb ⟨rfl, rfl⟩) | (go_at_call 12; (with_reducible refine (H2.out _).mono ?_); rintro e wb ⟨rfl, rfl⟩) | (go_at_call 44; refine (wrong_any w.heap.size _ _ _ _ _ _ _ _ _ _ X1.out.p).mono ?_; rintro e w2 ⟨rfl, b2⟩; have X4 := hid (X1.out.step b2); obtain ⟨r0, r1, r2, r3, r4, r5⟩ := six_of X4.out.r; obtain ⟨s0, s1, s2⟩ := three_of X4.out.t; have m0 := froz_of X4.out.r 0; have m1 := froz_of X4.out.r 1; have m2 := froz_of X4.out.r 2; have m3 := froz_of X4.out.r 3; have m4 := froz_of X4.out.r 4; have m5 := froz_of X4.out.r 5; have k0 := froz_of X4.out.t 0; have k1 := froz_of X4.out.t 1; have k2 := froz_of X4.out.t 2; clear b2))
  obtain ⟨w7, hw7⟩ : ∃ y, y = st3 (st6 w2 (w.heap.size + 1 + 1) (.int .i64 kd) (.int .i64 sz) (.int .i64 rm) (.int .i64 fr) (.slice a n c) (.int .i64 tm)) (w.heap.size + 1 + 1 + 1) (.string e0) (.bool false) (.int .i64 2) := ⟨_, rfl⟩
  have hw8 := hw7
  simp only [st6, st3] at hw8
  rw [← hw8]
  clear hw8
  obtain ⟨f1, f2, f3⟩ := D3.fin X4.out (.int .i64 kd) (.int .i64 sz) (.int .i64 rm) (.int .i64 fr) (.slice a n c) (.int .i64 tm) (.string e0) (.bool false) (.int .i64 2)
  have HR1 : Hid (Sem.run Try.prog (loadVar 36 ⟨w.heap.size + 1 + 1, 0, none⟩) w7 = .ok (.agg #[.int .i64 kd, .int .i64 sz, .int .i64 rm, .int .i64 fr, .slice a n c, .int .i64 tm]) w7) := by
    refine load_port ?_
    rw [hw7]
    exact f1
  have HR2 : Hid (Sem.run Try.prog (loadVar 44 ⟨w.heap.size + 1 + 1 + 1, 0, none⟩) w7 = .ok (.agg #[.string e0, .bool false, .int .i64 2]) w7) := by
    refine load_ans ?_
    rw [hw7]
    exact f2
  have HB7 : Hid (Below w.heap.size w w7) := by rw [hw7]; exact f3
  (try simp only [Exit.inBlock, Exit.then])
  refine bodyPost_ret (by simp [results, Try.results20]; rw [as_addr, Result.andThen_ok, HR1.out, Result.andThen_ok, as_addr, Result.andThen_ok, HR2.out, Result.andThen_ok]) rfl ?_
  exact ⟨rfl, HB7.out⟩
set_option maxRecDepth 20000 in
set_option maxHeartbeats 800000 in
theorem pd_full (sz rm fr tm now : Int) (a : Option Addr) (n c : Nat) (s : ByteArray) (w : World) (h2 : tm ≤ now ∧ now ≤ 1099511627776) (h3 : ¬ sz < (s.size : Int)) (h4 : ((n : Int) == rm) = true) :
    Calls Try.prog 20 #[.agg #[.int .i64 2, .int .i64 sz, .int .i64 rm, .int .i64 fr, .slice a n c, .int .i64 tm], .agg #[.int .i64 1, .int .i64 now, .string s]] w fun e w' => e = .returned (.tuple #[.agg #[.int .i64 2, .int .i64 sz, .int .i64 rm, .int .i64 fr, .slice a n c, .int .i64 tm], .agg #[.string e0, .bool false, .int .i64 6]]) ∧ Below w.heap.size w w' := by
  have H1 := hid (fun wx => bet_yes 1 1 2 wx (by decide))
  have H2 := hid (fun wx => bet_yes now tm 1099511627776 wx h2)
  clear h2
  have X0 := hid (D3.start4 w #[.int .i64 2, .int .i64 sz, .int .i64 rm, .int .i64 fr, .slice a n c, .int .i64 tm] #[.int .i64 1, .int .i64 now, .string s] #[.int .i64 0, .int .i64 0, .int .i64 0, .int .i64 0, .slice none 0 0, .int .i64 0] #[.string e0, .bool false, .int .i64 0])
  have X1 := hid (X0.out.alloc (.cells #[.int .i64 2, .int .i64 sz, .int .i64 rm, .int .i64 fr, .slice a n c, .int .i64 tm] 36))
  go_enter Try.func20, Try.ntmps20
  go_wp2_with (first | (go_at_call 12; (with_reducible refine (H1.out _).mono ?_); rintro e wb ⟨rfl, rfl⟩) | (go_at_call 12; (with_reducible refine (H2.out _).mono ?_); rintro e wb ⟨rfl, rfl⟩) | (go_at_call 44; refine (wrong_any w.heap.size _ _ _ _ _ _ _ _ _ _ X1.out.p).mono ?_; rintro e w2 ⟨rfl, b2⟩; have X4 := hid (X1.out.step b2); obtain ⟨r0, r1, r2, r3, r4, r5⟩ := six_of X4.out.r; obtain ⟨s0, s1, s2⟩ := three_of X4.out.t; have m0 := froz_of X4.out.r 0; have m1 := froz_of X4.out.r 1; have m2 := froz_of X4.out.r 2; have m3 := froz_of X4.out.r 3; have m4 := froz_of X4.out.r 4; have m5 := froz_of X4.out.r 5; have k0 := froz_of X4.out.t 0; have k1 := froz_of X4.out.t 1; have k2 := froz_of X4.out.t 2; clear b2))
  obtain ⟨w7, hw7⟩ : ∃ y, y = st3 (st6 w2 (w.heap.size + 1 + 1) (.int .i64 2) (.int .i64 sz) (.int .i64 rm) (.int .i64 fr) (.slice a n c) (.int .i64 tm)) (w.heap.size + 1 + 1 + 1) (.string e0) (.bool false) (.int .i64 6) := ⟨_, rfl⟩
  have hw8 := hw7
  simp only [st6, st3] at hw8
  rw [← hw8]
  clear hw8
  obtain ⟨f1, f2, f3⟩ := D3.fin X4.out (.int .i64 2) (.int .i64 sz) (.int .i64 rm) (.int .i64 fr) (.slice a n c) (.int .i64 tm) (.string e0) (.bool false) (.int .i64 6)
  have HR1 : Hid (Sem.run Try.prog (loadVar 36 ⟨w.heap.size + 1 + 1, 0, none⟩) w7 = .ok (.agg #[.int .i64 2, .int .i64 sz, .int .i64 rm, .int .i64 fr, .slice a n c, .int .i64 tm]) w7) := by
    refine load_port ?_
    rw [hw7]
    exact f1
  have HR2 : Hid (Sem.run Try.prog (loadVar 44 ⟨w.heap.size + 1 + 1 + 1, 0, none⟩) w7 = .ok (.agg #[.string e0, .bool false, .int .i64 6]) w7) := by
    refine load_ans ?_
    rw [hw7]
    exact f2
  have HB7 : Hid (Below w.heap.size w w7) := by rw [hw7]; exact f3
  (try simp only [Exit.inBlock, Exit.then])
  refine bodyPost_ret (by simp [results, Try.results20]; rw [as_addr, Result.andThen_ok, HR1.out, Result.andThen_ok, as_addr, Result.andThen_ok, HR2.out, Result.andThen_ok]) rfl ?_
  exact ⟨rfl, HB7.out⟩
set_option maxRecDepth 20000 in
set_option maxHeartbeats 800000 in
theorem pd_none (kd sz rm fr tm now : Int) (a : Option Addr) (n c : Nat) (s : ByteArray) (w : World) (h2 : tm ≤ now ∧ now ≤ 1099511627776) (h4 : ((n : Int) == 0) = true) :
    Calls Try.prog 20 #[.agg #[.int .i64 kd, .int .i64 sz, .int .i64 rm, .int .i64 fr, .slice a n c, .int .i64 tm], .agg #[.int .i64 2, .int .i64 now, .string s]] w fun e w' => e = .returned (.tuple #[.agg #[.int .i64 kd, .int .i64 sz, .int .i64 rm, .int .i64 fr, .slice a n c, .int .i64 tm], .agg #[.string e0, .bool false, .int .i64 7]]) ∧ Below w.heap.size w w' := by
  have H1 := hid (fun wx => bet_yes 2 1 2 wx (by decide))
  have H2 := hid (fun wx => bet_yes now tm 1099511627776 wx h2)
  clear h2
  have X0 := hid (D3.start4 w #[.int .i64 kd, .int .i64 sz, .int .i64 rm, .int .i64 fr, .slice a n c, .int .i64 tm] #[.int .i64 2, .int .i64 now, .string s] #[.int .i64 0, .int .i64 0, .int .i64 0, .int .i64 0, .slice none 0 0, .int .i64 0] #[.string e0, .bool false, .int .i64 0])
  have X1 := hid (X0.out.alloc (.cells #[.int .i64 kd, .int .i64 sz, .int .i64 rm, .int .i64 fr, .slice a n c, .int .i64 tm] 36))
  go_enter Try.func20, Try.ntmps20
  go_wp2_with (first | (go_at_call 12; (with_reducible refine (H1.out _).mono ?_); rintro e wb ⟨rfl, rfl⟩) | (go_at_call 12; (with_reducible refine (H2.out _).mono ?_); rintro e wb ⟨rfl, rfl⟩) | (go_at_call 44; refine (wrong_any w.heap.size _ _ _ _ _ _ _ _ _ _ X1.out.p).mono ?_; rintro e w2 ⟨rfl, b2⟩; have X4 := hid (X1.out.step b2); obtain ⟨r0, r1, r2, r3, r4, r5⟩ := six_of X4.out.r; obtain ⟨s0, s1, s2⟩ := three_of X4.out.t; have m0 := froz_of X4.out.r 0; have m1 := froz_of X4.out.r 1; have m2 := froz_of X4.out.r 2; have m3 := froz_of X4.out.r 3; have m4 := froz_of X4.out.r 4; have m5 := froz_of X4.out.r 5; have k0 := froz_of X4.out.t 0; have k1 := froz_of X4.out.t 1; have k2 := froz_of X4.out.t 2; clear b2))
  obtain ⟨w7, hw7⟩ : ∃ y, y = st3 (st6 w2 (w.heap.size + 1 + 1) (.int .i64 kd) (.int .i64 sz) (.int .i64 rm) (.int .i64 fr) (.slice a n c) (.int .i64 tm)) (w.heap.size + 1 + 1 + 1) (.string e0) (.bool false) (.int .i64 7) := ⟨_, rfl⟩
  have hw8 := hw7
  simp only [st6, st3] at hw8
  rw [← hw8]
  clear hw8
  obtain ⟨f1, f2, f3⟩ := D3.fin X4.out (.int .i64 kd) (.int .i64 sz) (.int .i64 rm) (.int .i64 fr) (.slice a n c) (.int .i64 tm) (.string e0) (.bool false) (.int .i64 7)
  have HR1 : Hid (Sem.run Try.prog (loadVar 36 ⟨w.heap.size + 1 + 1, 0, none⟩) w7 = .ok (.agg #[.int .i64 kd, .int .i64 sz, .int .i64 rm, .int .i64 fr, .slice a n c, .int .i64 tm]) w7) := by
    refine load_port ?_
    rw [hw7]
    exact f1
  have HR2 : Hid (Sem.run Try.prog (loadVar 44 ⟨w.heap.size + 1 + 1 + 1, 0, none⟩) w7 = .ok (.agg #[.string e0, .bool false, .int .i64 7]) w7) := by
    refine load_ans ?_
    rw [hw7]
    exact f2
  have HB7 : Hid (Below w.heap.size w w7) := by rw [hw7]; exact f3
  (try simp only [Exit.inBlock, Exit.then])
  refine bodyPost_ret (by simp [results, Try.results20]; rw [as_addr, Result.andThen_ok, HR1.out, Result.andThen_ok, as_addr, Result.andThen_ok, HR2.out, Result.andThen_ok]) rfl ?_
  exact ⟨rfl, HB7.out⟩
end PortC
end Go.Proofs.Ytllfpbngfkimlaa
