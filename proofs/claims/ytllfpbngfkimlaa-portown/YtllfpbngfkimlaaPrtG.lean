/- Package port: do (gen_prtg.py writes this text). -/
import Derived.Test.YtllfpbngfkimlaaPrtF
set_option linter.unusedVariables false
namespace Go.Proofs.Ytllfpbngfkimlaa
open Go.RowKit
open Go.Shelf Go.Sort
open SpanM SpanC IntsC
namespace PortC
open PrtM
/-- blocks that are laid one behind the other -/
theorem alN : ∀ (l : List Obj) (w : World), (∀ i, i < l.length → (l.foldl World.alloc w).heap[w.heap.size + i]? = l[i]?) ∧ (l.foldl World.alloc w).heap.size = w.heap.size + l.length ∧ ∀ k, k < w.heap.size → (l.foldl World.alloc w).heap[k]? = w.heap[k]?
  | [], w => ⟨fun i h => by simp at h, rfl, fun _ _ => rfl⟩
  | o :: r, w => by
    obtain ⟨h1, h2, h3⟩ := alN r (w.alloc o)
    rw [World.size_alloc] at h1 h2 h3
    have h0 : (w.alloc o).heap[w.heap.size]? = some o := heap_alloc_new w o
    refine ⟨fun i hi => ?_, ?_, fun k hk => ?_⟩
    · cases i with
      | zero => rw [Nat.add_zero, List.foldl_cons, h3 _ (by omega), h0]; rfl
      | succ j =>
        have := h1 j (by simpa using hi)
        rw [List.foldl_cons, show w.heap.size + (j + 1) = w.heap.size + 1 + j by omega, this]
        simp
    · rw [List.foldl_cons, h2]; simp; omega
    · rw [List.foldl_cons, h3 k (by omega)]
      show (w.heap.push o)[k]? = _
      rw [Array.getElem?_push, if_neg (by omega)]
theorem alN_below : ∀ (l : List Obj) (w : World), Below w.heap.size w (l.foldl World.alloc w)
  | [], w => Below.refl _ _
  | o :: r, w => (((Below.refl _ w).alloc (Nat.le_refl _) o)).trans ((alN_below r (w.alloc o)).mono (by rw [World.size_alloc]; omega))
abbrev st3 (w : World) (b : Nat) (x0 x1 x2 : Value) : World := ((w.setCell ⟨b, 0, none⟩ x0).setCell ⟨b, 1, none⟩ x1).setCell ⟨b, 2, none⟩ x2
theorem st3_heap {w : World} {b T : Nat} {z0 z1 z2 x0 x1 x2 : Value} (h : w.heap[b]? = some (.cells #[z0, z1, z2] T)) : (st3 w b x0 x1 x2).heap[b]? = some (.cells #[x0, x1, x2] T) :=
  heap_setCell_same _ _ _ _ _ _ (heap_setCell_same _ _ _ _ _ _ (heap_setCell_same _ _ _ _ _ _ h))
theorem st3_other {w : World} {b : Nat} (x0 x1 x2 : Value) {k : Nat} (h : k ≠ b) : (st3 w b x0 x1 x2).heap[k]? = w.heap[k]? := by
  unfold st3
  rw [heap_setCell_other _ _ _ _ h, heap_setCell_other _ _ _ _ h, heap_setCell_other _ _ _ _ h]
theorem st3_own {w : World} {B T b : Nat} {α : Type} {E : RowG.Enc α} {v x0 x1 x2 : Value} {l : List α} (h : RowG.Own E T w B v l) (hne : v.ownBlock ≠ some b) : RowG.Own E T (st3 w b x0 x1 x2) B v l :=
  orow_heap h fun q hq => st3_other _ _ _ (fun e => hne (by rw [hq, e]))
theorem st3_below {w W : World} {B b : Nat} {x0 x1 x2 : Value} (h : Below B w W) (hb : B ≤ b) : Below B w (st3 W b x0 x1 x2) :=
  bel_set (bel_set (bel_set h _ _ _ hb) _ _ _ hb) _ _ _ hb
theorem three_of {W : World} {b T : Nat} {x0 x1 x2 : Value} (h : W.heap[b]? = some (.cells #[x0, x1, x2] T)) : W.cell? ⟨b, 0, none⟩ = some x0 ∧ W.cell? ⟨b, 1, none⟩ = some x1 ∧ W.cell? ⟨b, 2, none⟩ = some x2 := ⟨box_cell h 0, box_cell h 1, box_cell h 2⟩
theorem infoA3 : (Try.prog.info? 44).map (·.size) = some 3 := by kernel_rfl
theorem load_ans {W : World} {b : Nat} {x0 x1 x2 : Value} (h : W.heap[b]? = some (.cells #[x0, x1, x2] 44)) :
    (loadVar 44 ⟨b, 0, none⟩).run Try.prog W = .ok (.agg #[x0, x1, x2]) W :=
  run_loadVar_mid W _ 0 _ [x0, x1, x2] _ (fun j v hv => by rw [Nat.zero_add, box_cell h]; simpa using hv) Try.underlying44 (by rfl) infoA3
abbrev z3 : Array Value := #[.string e0, .bool false, .int .i64 0]
/-- do's six boxes -/
structure D6 (w W : World) (p o r t n d : Array Value) : Prop where
  p : W.heap[w.heap.size]? = some (.cells p 36)
  o : W.heap[w.heap.size + 1]? = some (.cells o 48)
  r : W.heap[w.heap.size + 1 + 1]? = some (.cells r 36)
  t : W.heap[w.heap.size + 1 + 1 + 1]? = some (.cells t 44)
  n : W.heap[w.heap.size + 1 + 1 + 1 + 1]? = some (.cells n 36)
  d : W.heap[w.heap.size + 1 + 1 + 1 + 1 + 1]? = some (.cells d 44)
  b : Below w.heap.size w W
theorem D6.start (w : World) (p o r t n d : Array Value) : D6 w ((((((w.alloc (.cells p 36)).alloc (.cells o 48)).alloc (.cells r 36)).alloc (.cells t 44)).alloc (.cells n 36)).alloc (.cells d 44)) p o r t n d := by
  obtain ⟨h, _, _⟩ := alN [.cells p 36, .cells o 48, .cells r 36, .cells t 44, .cells n 36, .cells d 44] w
  exact ⟨h 0 (by simp), h 1 (by simp), h 2 (by simp), h 3 (by simp), h 4 (by simp), h 5 (by simp), alN_below [.cells p 36, .cells o 48, .cells r 36, .cells t 44, .cells n 36, .cells d 44] w⟩
theorem D6.step {w W V : World} {p o r t n d : Array Value} (h : D6 w W p o r t n d) (k : Below W.heap.size W V) : D6 w V p o r t n d :=
  ⟨box_below h.p k (Nat.le_refl _), box_below h.o k (Nat.le_refl _), box_below h.r k (Nat.le_refl _), box_below h.t k (Nat.le_refl _), box_below h.n k (Nat.le_refl _), box_below h.d k (Nat.le_refl _), bel_of h.b k⟩
theorem D6.next {w W : World} {p o r t d : Array Value} {z0 z1 z2 z3 z4 z5 : Value} (h : D6 w W p o r t #[z0, z1, z2, z3, z4, z5] d) (x0 x1 x2 x3 x4 x5 : Value) : D6 w (st6 W (w.heap.size + 1 + 1 + 1 + 1) x0 x1 x2 x3 x4 x5) p o r t #[x0, x1, x2, x3, x4, x5] d :=
  ⟨(st6_other _ _ _ _ _ _ (by omega)).trans h.p, (st6_other _ _ _ _ _ _ (by omega)).trans h.o, (st6_other _ _ _ _ _ _ (by omega)).trans h.r, (st6_other _ _ _ _ _ _ (by omega)).trans h.t, st6_heap h.n, (st6_other _ _ _ _ _ _ (by omega)).trans h.d, st6_below h.b (by omega)⟩
theorem D6.err {w W : World} {p o r t n : Array Value} {z0 z1 z2 : Value} (h : D6 w W p o r t n #[z0, z1, z2]) (E : Value) : D6 w (W.setCell ⟨w.heap.size + 1 + 1 + 1 + 1 + 1, 2, none⟩ E) p o r t n #[z0, z1, E] :=
  ⟨(heap_setCell_other _ _ _ _ (by dsimp only; omega)).trans h.p, (heap_setCell_other _ _ _ _ (by dsimp only; omega)).trans h.o, (heap_setCell_other _ _ _ _ (by dsimp only; omega)).trans h.r, (heap_setCell_other _ _ _ _ (by dsimp only; omega)).trans h.t, (heap_setCell_other _ _ _ _ (by dsimp only; omega)).trans h.n, heap_setCell_same _ _ _ _ _ _ h.d, bel_set h.b _ _ _ (by omega)⟩
theorem D6.told {w W : World} {p o r t n : Array Value} {z0 z1 z2 : Value} (h : D6 w W p o r t n #[z0, z1, z2]) (x0 x1 x2 : Value) : D6 w (st3 W (w.heap.size + 1 + 1 + 1 + 1 + 1) x0 x1 x2) p o r t n #[x0, x1, x2] :=
  ⟨(st3_other _ _ _ (by omega)).trans h.p, (st3_other _ _ _ (by omega)).trans h.o, (st3_other _ _ _ (by omega)).trans h.r, (st3_other _ _ _ (by omega)).trans h.t, (st3_other _ _ _ (by omega)).trans h.n, st3_heap h.d, st3_below h.b (by omega)⟩
/-- what do answers, put into its boxes -/
theorem D6.fin {w W : World} {p o n d : Array Value} {z0 z1 z2 z3 z4 z5 y0 y1 y2 : Value} (h : D6 w W p o #[z0, z1, z2, z3, z4, z5] #[y0, y1, y2] n d) (x0 x1 x2 x3 x4 x5 u0 u1 u2 : Value) :
    (st3 (st6 W (w.heap.size + 1 + 1) x0 x1 x2 x3 x4 x5) (w.heap.size + 1 + 1 + 1) u0 u1 u2).heap[w.heap.size + 1 + 1]? = some (.cells #[x0, x1, x2, x3, x4, x5] 36) ∧ (st3 (st6 W (w.heap.size + 1 + 1) x0 x1 x2 x3 x4 x5) (w.heap.size + 1 + 1 + 1) u0 u1 u2).heap[w.heap.size + 1 + 1 + 1]? = some (.cells #[u0, u1, u2] 44) ∧ Below w.heap.size w (st3 (st6 W (w.heap.size + 1 + 1) x0 x1 x2 x3 x4 x5) (w.heap.size + 1 + 1 + 1) u0 u1 u2) :=
  ⟨(st3_other _ _ _ (by omega)).trans (st6_heap h.r), st3_heap ((st6_other _ _ _ _ _ _ (by omega)).trans h.t), st3_below (st6_below h.b (by omega)) (by omega)⟩
theorem own_fin {w W : World} {p o r t n d : Array Value} {v : Value} {l : List ByteArray} {B : Nat} (h : D6 w W p o r t n d) (ho : OwnS W B v l) (x0 x1 x2 x3 x4 x5 u0 u1 u2 : Value) : OwnS (st3 (st6 W (w.heap.size + 1 + 1) x0 x1 x2 x3 x4 x5) (w.heap.size + 1 + 1 + 1) u0 u1 u2) B v l :=
  st3_own (st6_own ho (orow_ne_box ho h.r (by decide))) (orow_ne_box ho h.t (by decide))
theorem own_next {w W : World} {p o r t n d : Array Value} {v : Value} {l : List ByteArray} {B : Nat} (h : D6 w W p o r t n d) (ho : OwnS W B v l) (x0 x1 x2 x3 x4 x5 : Value) : OwnS (st6 W (w.heap.size + 1 + 1 + 1 + 1) x0 x1 x2 x3 x4 x5) B v l := st6_own ho (orow_ne_box ho h.n (by decide))
theorem own_err {w W : World} {p o r t n d : Array Value} {v : Value} {l : List ByteArray} {B : Nat} (h : D6 w W p o r t n d) (ho : OwnS W B v l) (E : Value) : OwnS (W.setCell ⟨w.heap.size + 1 + 1 + 1 + 1 + 1, 2, none⟩ E) B v l := own_set ho _ _ _ (orow_ne_box ho h.d (by decide))
theorem own_told {w W : World} {p o r t n d : Array Value} {v : Value} {l : List ByteArray} {B : Nat} (h : D6 w W p o r t n d) (ho : OwnS W B v l) (u0 u1 u2 : Value) : OwnS (st3 W (w.heap.size + 1 + 1 + 1 + 1 + 1) u0 u1 u2) B v l := st3_own ho (orow_ne_box ho h.d (by decide))
set_option maxRecDepth 20000 in
set_option maxHeartbeats 1600000 in
theorem do_wr_no (kd sz rm fr tm : Int) (a : Option Addr) (n c : Nat) (now : Int) (s : ByteArray) (w : World) (q0 q1 q2 q3 q5 E : Int) (li : List ByteArray) (hE : (E != 0) = true)
    (HW : ∀ wx, Below w.heap.size w wx → Calls Try.prog 15 #[.agg #[.int .i64 kd, .int .i64 sz, .int .i64 rm, .int .i64 fr, .slice a n c, .int .i64 tm], .string s, .int .i64 now] wx fun e w' => (∃ u, e = .returned (.tuple #[.agg #[.int .i64 q0, .int .i64 q1, .int .i64 q2, .int .i64 q3, u, .int .i64 q5], .int .i64 E]) ∧ OwnS w' wx.heap.size u li) ∧ Below wx.heap.size wx w') :
    Calls Try.prog 45 #[.agg #[.int .i64 kd, .int .i64 sz, .int .i64 rm, .int .i64 fr, .slice a n c, .int .i64 tm], .agg #[.int .i64 1, .int .i64 now, .string s]] w fun e w' => e = .returned (.tuple #[.agg #[.int .i64 kd, .int .i64 sz, .int .i64 rm, .int .i64 fr, .slice a n c, .int .i64 tm], .agg #[.string e0, .bool false, .int .i64 E]]) ∧ Below w.heap.size w w' := by
  have HM := hid HW
  clear HW
  go_enter Try.func45, Try.ntmps45
  go_wp2_with (go_at_call 15; refine (HM.out _ (by go_grown)).mono ?_; rintro e w2 ⟨⟨u, rfl, ho2⟩, b2⟩; obtain ⟨au, nu, cu, hu⟩ : ∃ au nu cu, u = .slice au nu cu := (by obtain ⟨a9, c9, e9⟩ := RowG.Own.slice ho2; exact ⟨_, _, _, e9⟩); subst hu; have HO2 := hid (RowG.Own.base ho2 (show w.heap.size ≤ _ by have := (D6.start w #[.int .i64 kd, .int .i64 sz, .int .i64 rm, .int .i64 fr, .slice a n c, .int .i64 tm] #[.int .i64 1, .int .i64 now, .string s] #[.int .i64 0, .int .i64 0, .int .i64 0, .int .i64 0, .slice none 0 0, .int .i64 0] z3 #[.int .i64 0, .int .i64 0, .int .i64 0, .int .i64 0, .slice none 0 0, .int .i64 0] z3).b.size; exact this)); have X2 := hid ((D6.start w #[.int .i64 kd, .int .i64 sz, .int .i64 rm, .int .i64 fr, .slice a n c, .int .i64 tm] #[.int .i64 1, .int .i64 now, .string s] #[.int .i64 0, .int .i64 0, .int .i64 0, .int .i64 0, .slice none 0 0, .int .i64 0] z3 #[.int .i64 0, .int .i64 0, .int .i64 0, .int .i64 0, .slice none 0 0, .int .i64 0] z3).step b2); obtain ⟨p0, p1, p2, p3, p4, p5⟩ := six_of X2.out.p; obtain ⟨o0, o1, o2⟩ := three_of X2.out.o; obtain ⟨n0, n1, n2, n3, n4, n5⟩ := six_of X2.out.n; obtain ⟨t0, t1, t2⟩ := three_of X2.out.d; have m0 := froz_of X2.out.n 0; have m1 := froz_of X2.out.n 1; have m2 := froz_of X2.out.n 2; have m3 := froz_of X2.out.n 3; have m4 := froz_of X2.out.n 4; have m5 := froz_of X2.out.n 5; have k0 := froz_of X2.out.d 0; have k1 := froz_of X2.out.d 1; have k2 := froz_of X2.out.d 2; clear ho2 b2)
  obtain ⟨w4, hw4⟩ : ∃ y, y = (st6 w2 (w.heap.size + 1 + 1 + 1 + 1) (.int .i64 q0) (.int .i64 q1) (.int .i64 q2) (.int .i64 q3) (.slice au nu cu) (.int .i64 q5)).setCell ⟨w.heap.size + 1 + 1 + 1 + 1 + 1, 2, none⟩ (.int .i64 E) := ⟨_, rfl⟩
  have hw5 := hw4
  simp only [st6] at hw5
  rw [← hw5]
  clear hw5
  have X4 : Hid (D6 w w4 #[.int .i64 kd, .int .i64 sz, .int .i64 rm, .int .i64 fr, .slice a n c, .int .i64 tm] #[.int .i64 1, .int .i64 now, .string s] #[.int .i64 0, .int .i64 0, .int .i64 0, .int .i64 0, .slice none 0 0, .int .i64 0] z3 #[.int .i64 q0, .int .i64 q1, .int .i64 q2, .int .i64 q3, .slice au nu cu, .int .i64 q5] #[.string e0, .bool false, .int .i64 E]) := by rw [hw4]; exact (X2.out.next (.int .i64 q0) (.int .i64 q1) (.int .i64 q2) (.int .i64 q3) (.slice au nu cu) (.int .i64 q5)).err (.int .i64 E)
  clear hw4
  clear p0 p1 p2 p3 p4 p5 o0 o1 o2 n0 n1 n2 n3 n4 n5 t0 t1 t2 m0 m1 m2 m3 m4 m5 k0 k1 k2
  obtain ⟨p0, p1, p2, p3, p4, p5⟩ := six_of X4.out.p
  obtain ⟨t0, t1, t2⟩ := three_of X4.out.d
  obtain ⟨r0, r1, r2, r3, r4, r5⟩ := six_of X4.out.r
  obtain ⟨s0, s1, s2⟩ := three_of X4.out.t
  have m0 := froz_of X4.out.r 0
  have m1 := froz_of X4.out.r 1
  have m2 := froz_of X4.out.r 2
  have m3 := froz_of X4.out.r 3
  have m4 := froz_of X4.out.r 4
  have m5 := froz_of X4.out.r 5
  have k0 := froz_of X4.out.t 0
  have k1 := froz_of X4.out.t 1
  have k2 := froz_of X4.out.t 2
  go_region
  obtain ⟨w7, hw7⟩ : ∃ y, y = (st3 (st6 w4 (w.heap.size + 1 + 1) (.int .i64 kd) (.int .i64 sz) (.int .i64 rm) (.int .i64 fr) (.slice a n c) (.int .i64 tm)) (w.heap.size + 1 + 1 + 1) (.string e0) (.bool false) (.int .i64 E)).drew := ⟨_, rfl⟩
  have hw8 := hw7
  simp only [st6, st3] at hw8
  rw [← hw8]
  clear hw8
  obtain ⟨f1, f2, f3⟩ := D6.fin X4.out (.int .i64 kd) (.int .i64 sz) (.int .i64 rm) (.int .i64 fr) (.slice a n c) (.int .i64 tm) (.string e0) (.bool false) (.int .i64 E)
  have HR1 : Hid (Sem.run Try.prog (loadVar 36 ⟨w.heap.size + 1 + 1, 0, none⟩) w7 = .ok (.agg #[.int .i64 kd, .int .i64 sz, .int .i64 rm, .int .i64 fr, .slice a n c, .int .i64 tm]) w7) := by
    refine load_port ?_
    rw [hw7, heap_drew]
    exact f1
  have HR2 : Hid (Sem.run Try.prog (loadVar 44 ⟨w.heap.size + 1 + 1 + 1, 0, none⟩) w7 = .ok (.agg #[.string e0, .bool false, .int .i64 E]) w7) := by
    refine load_ans ?_
    rw [hw7, heap_drew]
    exact f2
  have HB7 : Hid (Below w.heap.size w w7) := by rw [hw7]; exact Below.drew f3
  clear f1 f2 f3 hw7
  go_wp2_with fail
  (try simp only [Exit.inBlock, Exit.then])
  refine bodyPost_ret (by simp [results, Try.results45]; rw [as_addr, Result.andThen_ok, HR1.out, Result.andThen_ok, as_addr, Result.andThen_ok, HR2.out, Result.andThen_ok]) rfl ?_
  exact ⟨rfl, HB7.out⟩
set_option maxRecDepth 20000 in
set_option maxHeartbeats 1600000 in
theorem do_wr_ok (kd sz rm fr tm : Int) (a : Option Addr) (n c : Nat) (now : Int) (s : ByteArray) (w : World) (q0 q1 q2 q3 q5 : Int) (li : List ByteArray)
    (HW : ∀ wx, Below w.heap.size w wx → Calls Try.prog 15 #[.agg #[.int .i64 kd, .int .i64 sz, .int .i64 rm, .int .i64 fr, .slice a n c, .int .i64 tm], .string s, .int .i64 now] wx fun e w' => (∃ u, e = .returned (.tuple #[.agg #[.int .i64 q0, .int .i64 q1, .int .i64 q2, .int .i64 q3, u, .int .i64 q5], .int .i64 0]) ∧ OwnS w' wx.heap.size u li) ∧ Below wx.heap.size wx w') :
    Calls Try.prog 45 #[.agg #[.int .i64 kd, .int .i64 sz, .int .i64 rm, .int .i64 fr, .slice a n c, .int .i64 tm], .agg #[.int .i64 1, .int .i64 now, .string s]] w fun e w' => (∃ u, e = .returned (.tuple #[.agg #[.int .i64 q0, .int .i64 q1, .int .i64 q2, .int .i64 q3, u, .int .i64 q5], .agg #[.string e0, .bool false, .int .i64 0]]) ∧ OwnS w' w.heap.size u li) ∧ Below w.heap.size w w' := by
  have HM := hid HW
  clear HW
  go_enter Try.func45, Try.ntmps45
  go_wp2_with (go_at_call 15; refine (HM.out _ (by go_grown)).mono ?_; rintro e w2 ⟨⟨u, rfl, ho2⟩, b2⟩; obtain ⟨au, nu, cu, hu⟩ : ∃ au nu cu, u = .slice au nu cu := (by obtain ⟨a9, c9, e9⟩ := RowG.Own.slice ho2; exact ⟨_, _, _, e9⟩); subst hu; have HO2 := hid (RowG.Own.base ho2 (show w.heap.size ≤ _ by have := (D6.start w #[.int .i64 kd, .int .i64 sz, .int .i64 rm, .int .i64 fr, .slice a n c, .int .i64 tm] #[.int .i64 1, .int .i64 now, .string s] #[.int .i64 0, .int .i64 0, .int .i64 0, .int .i64 0, .slice none 0 0, .int .i64 0] z3 #[.int .i64 0, .int .i64 0, .int .i64 0, .int .i64 0, .slice none 0 0, .int .i64 0] z3).b.size; exact this)); have X2 := hid ((D6.start w #[.int .i64 kd, .int .i64 sz, .int .i64 rm, .int .i64 fr, .slice a n c, .int .i64 tm] #[.int .i64 1, .int .i64 now, .string s] #[.int .i64 0, .int .i64 0, .int .i64 0, .int .i64 0, .slice none 0 0, .int .i64 0] z3 #[.int .i64 0, .int .i64 0, .int .i64 0, .int .i64 0, .slice none 0 0, .int .i64 0] z3).step b2); obtain ⟨p0, p1, p2, p3, p4, p5⟩ := six_of X2.out.p; obtain ⟨o0, o1, o2⟩ := three_of X2.out.o; obtain ⟨n0, n1, n2, n3, n4, n5⟩ := six_of X2.out.n; obtain ⟨t0, t1, t2⟩ := three_of X2.out.d; have m0 := froz_of X2.out.n 0; have m1 := froz_of X2.out.n 1; have m2 := froz_of X2.out.n 2; have m3 := froz_of X2.out.n 3; have m4 := froz_of X2.out.n 4; have m5 := froz_of X2.out.n 5; have k0 := froz_of X2.out.d 0; have k1 := froz_of X2.out.d 1; have k2 := froz_of X2.out.d 2; clear ho2 b2)
  obtain ⟨w4, hw4⟩ : ∃ y, y = (st6 w2 (w.heap.size + 1 + 1 + 1 + 1) (.int .i64 q0) (.int .i64 q1) (.int .i64 q2) (.int .i64 q3) (.slice au nu cu) (.int .i64 q5)).setCell ⟨w.heap.size + 1 + 1 + 1 + 1 + 1, 2, none⟩ (.int .i64 0) := ⟨_, rfl⟩
  have hw5 := hw4
  simp only [st6] at hw5
  rw [← hw5]
  clear hw5
  have X4 : Hid (D6 w w4 #[.int .i64 kd, .int .i64 sz, .int .i64 rm, .int .i64 fr, .slice a n c, .int .i64 tm] #[.int .i64 1, .int .i64 now, .string s] #[.int .i64 0, .int .i64 0, .int .i64 0, .int .i64 0, .slice none 0 0, .int .i64 0] z3 #[.int .i64 q0, .int .i64 q1, .int .i64 q2, .int .i64 q3, .slice au nu cu, .int .i64 q5] #[.string e0, .bool false, .int .i64 0]) := by rw [hw4]; exact (X2.out.next (.int .i64 q0) (.int .i64 q1) (.int .i64 q2) (.int .i64 q3) (.slice au nu cu) (.int .i64 q5)).err (.int .i64 0)
  have HO4 : Hid (OwnS w4 w.heap.size (.slice au nu cu) li) := by rw [hw4]; exact own_err (X2.out.next (.int .i64 q0) (.int .i64 q1) (.int .i64 q2) (.int .i64 q3) (.slice au nu cu) (.int .i64 q5)) (own_next X2.out HO2.out (.int .i64 q0) (.int .i64 q1) (.int .i64 q2) (.int .i64 q3) (.slice au nu cu) (.int .i64 q5)) (.int .i64 0)
  clear hw4
  clear p0 p1 p2 p3 p4 p5 o0 o1 o2 n0 n1 n2 n3 n4 n5 t0 t1 t2 m0 m1 m2 m3 m4 m5 k0 k1 k2
  obtain ⟨p0, p1, p2, p3, p4, p5⟩ := six_of X4.out.n
  obtain ⟨t0, t1, t2⟩ := three_of X4.out.d
  obtain ⟨r0, r1, r2, r3, r4, r5⟩ := six_of X4.out.r
  obtain ⟨s0, s1, s2⟩ := three_of X4.out.t
  have m0 := froz_of X4.out.r 0
  have m1 := froz_of X4.out.r 1
  have m2 := froz_of X4.out.r 2
  have m3 := froz_of X4.out.r 3
  have m4 := froz_of X4.out.r 4
  have m5 := froz_of X4.out.r 5
  have k0 := froz_of X4.out.t 0
  have k1 := froz_of X4.out.t 1
  have k2 := froz_of X4.out.t 2
  go_region
  obtain ⟨w7, hw7⟩ : ∃ y, y = (st3 (st6 w4 (w.heap.size + 1 + 1) (.int .i64 q0) (.int .i64 q1) (.int .i64 q2) (.int .i64 q3) (.slice au nu cu) (.int .i64 q5)) (w.heap.size + 1 + 1 + 1) (.string e0) (.bool false) (.int .i64 0)).drew := ⟨_, rfl⟩
  have hw8 := hw7
  simp only [st6, st3] at hw8
  rw [← hw8]
  clear hw8
  obtain ⟨f1, f2, f3⟩ := D6.fin X4.out (.int .i64 q0) (.int .i64 q1) (.int .i64 q2) (.int .i64 q3) (.slice au nu cu) (.int .i64 q5) (.string e0) (.bool false) (.int .i64 0)
  have HR1 : Hid (Sem.run Try.prog (loadVar 36 ⟨w.heap.size + 1 + 1, 0, none⟩) w7 = .ok (.agg #[.int .i64 q0, .int .i64 q1, .int .i64 q2, .int .i64 q3, .slice au nu cu, .int .i64 q5]) w7) := by
    refine load_port ?_
    rw [hw7, heap_drew]
    exact f1
  have HR2 : Hid (Sem.run Try.prog (loadVar 44 ⟨w.heap.size + 1 + 1 + 1, 0, none⟩) w7 = .ok (.agg #[.string e0, .bool false, .int .i64 0]) w7) := by
    refine load_ans ?_
    rw [hw7, heap_drew]
    exact f2
  have HB7 : Hid (Below w.heap.size w w7) := by rw [hw7]; exact Below.drew f3
  have HO7 : Hid (OwnS w7 w.heap.size (.slice au nu cu) li) := by rw [hw7]; exact own_drew (own_fin X4.out HO4.out (.int .i64 q0) (.int .i64 q1) (.int .i64 q2) (.int .i64 q3) (.slice au nu cu) (.int .i64 q5) (.string e0) (.bool false) (.int .i64 0))
  clear f1 f2 f3 hw7
  go_wp2_with fail
  (try simp only [Exit.inBlock, Exit.then])
  refine bodyPost_ret (by simp [results, Try.results45]; rw [as_addr, Result.andThen_ok, HR1.out, Result.andThen_ok, as_addr, Result.andThen_ok, HR2.out, Result.andThen_ok]) rfl ?_
  exact ⟨⟨_, rfl, HO7.out⟩, HB7.out⟩
set_option maxRecDepth 20000 in
set_option maxHeartbeats 1600000 in
theorem do_rd_no (kd sz rm fr tm : Int) (a : Option Addr) (n c : Nat) (now : Int) (s : ByteArray) (w : World) (q0 q1 q2 q3 q5 E : Int) (X : ByteArray) (F : Bool) (li : List ByteArray) (hE : (E != 0) = true)
    (HW : ∀ wx, Below w.heap.size w wx → Calls Try.prog 16 #[.agg #[.int .i64 kd, .int .i64 sz, .int .i64 rm, .int .i64 fr, .slice a n c, .int .i64 tm], .int .i64 now] wx fun e w' => (∃ u, e = .returned (.tuple #[.agg #[.int .i64 q0, .int .i64 q1, .int .i64 q2, .int .i64 q3, u, .int .i64 q5], .string X, .bool F, .int .i64 E]) ∧ OwnS w' wx.heap.size u li) ∧ Below wx.heap.size wx w') :
    Calls Try.prog 45 #[.agg #[.int .i64 kd, .int .i64 sz, .int .i64 rm, .int .i64 fr, .slice a n c, .int .i64 tm], .agg #[.int .i64 2, .int .i64 now, .string s]] w fun e w' => e = .returned (.tuple #[.agg #[.int .i64 kd, .int .i64 sz, .int .i64 rm, .int .i64 fr, .slice a n c, .int .i64 tm], .agg #[.string X, .bool F, .int .i64 E]]) ∧ Below w.heap.size w w' := by
  have HM := hid HW
  clear HW
  go_enter Try.func45, Try.ntmps45
  go_wp2_with (go_at_call 16; refine (HM.out _ (by go_grown)).mono ?_; rintro e w2 ⟨⟨u, rfl, ho2⟩, b2⟩; obtain ⟨au, nu, cu, hu⟩ : ∃ au nu cu, u = .slice au nu cu := (by obtain ⟨a9, c9, e9⟩ := RowG.Own.slice ho2; exact ⟨_, _, _, e9⟩); subst hu; have HO2 := hid (RowG.Own.base ho2 (show w.heap.size ≤ _ by have := (D6.start w #[.int .i64 kd, .int .i64 sz, .int .i64 rm, .int .i64 fr, .slice a n c, .int .i64 tm] #[.int .i64 2, .int .i64 now, .string s] #[.int .i64 0, .int .i64 0, .int .i64 0, .int .i64 0, .slice none 0 0, .int .i64 0] z3 #[.int .i64 0, .int .i64 0, .int .i64 0, .int .i64 0, .slice none 0 0, .int .i64 0] z3).b.size; exact this)); have X2 := hid ((D6.start w #[.int .i64 kd, .int .i64 sz, .int .i64 rm, .int .i64 fr, .slice a n c, .int .i64 tm] #[.int .i64 2, .int .i64 now, .string s] #[.int .i64 0, .int .i64 0, .int .i64 0, .int .i64 0, .slice none 0 0, .int .i64 0] z3 #[.int .i64 0, .int .i64 0, .int .i64 0, .int .i64 0, .slice none 0 0, .int .i64 0] z3).step b2); obtain ⟨p0, p1, p2, p3, p4, p5⟩ := six_of X2.out.p; obtain ⟨o0, o1, o2⟩ := three_of X2.out.o; obtain ⟨n0, n1, n2, n3, n4, n5⟩ := six_of X2.out.n; obtain ⟨t0, t1, t2⟩ := three_of X2.out.d; have m0 := froz_of X2.out.n 0; have m1 := froz_of X2.out.n 1; have m2 := froz_of X2.out.n 2; have m3 := froz_of X2.out.n 3; have m4 := froz_of X2.out.n 4; have m5 := froz_of X2.out.n 5; have k0 := froz_of X2.out.d 0; have k1 := froz_of X2.out.d 1; have k2 := froz_of X2.out.d 2; clear ho2 b2)
  obtain ⟨w4, hw4⟩ : ∃ y, y = st3 (st6 w2 (w.heap.size + 1 + 1 + 1 + 1) (.int .i64 q0) (.int .i64 q1) (.int .i64 q2) (.int .i64 q3) (.slice au nu cu) (.int .i64 q5)) (w.heap.size + 1 + 1 + 1 + 1 + 1) (.string X) (.bool F) (.int .i64 E) := ⟨_, rfl⟩
  have hw5 := hw4
  simp only [st6, st3] at hw5
  rw [← hw5]
  clear hw5
  have X4 : Hid (D6 w w4 #[.int .i64 kd, .int .i64 sz, .int .i64 rm, .int .i64 fr, .slice a n c, .int .i64 tm] #[.int .i64 2, .int .i64 now, .string s] #[.int .i64 0, .int .i64 0, .int .i64 0, .int .i64 0, .slice none 0 0, .int .i64 0] z3 #[.int .i64 q0, .int .i64 q1, .int .i64 q2, .int .i64 q3, .slice au nu cu, .int .i64 q5] #[.string X, .bool F, .int .i64 E]) := by rw [hw4]; exact (X2.out.next (.int .i64 q0) (.int .i64 q1) (.int .i64 q2) (.int .i64 q3) (.slice au nu cu) (.int .i64 q5)).told (.string X) (.bool F) (.int .i64 E)
  clear hw4
  clear p0 p1 p2 p3 p4 p5 o0 o1 o2 n0 n1 n2 n3 n4 n5 t0 t1 t2 m0 m1 m2 m3 m4 m5 k0 k1 k2
  obtain ⟨p0, p1, p2, p3, p4, p5⟩ := six_of X4.out.p
  obtain ⟨t0, t1, t2⟩ := three_of X4.out.d
  obtain ⟨r0, r1, r2, r3, r4, r5⟩ := six_of X4.out.r
  obtain ⟨s0, s1, s2⟩ := three_of X4.out.t
  have m0 := froz_of X4.out.r 0
  have m1 := froz_of X4.out.r 1
  have m2 := froz_of X4.out.r 2
  have m3 := froz_of X4.out.r 3
  have m4 := froz_of X4.out.r 4
  have m5 := froz_of X4.out.r 5
  have k0 := froz_of X4.out.t 0
  have k1 := froz_of X4.out.t 1
  have k2 := froz_of X4.out.t 2
  go_region
  obtain ⟨w7, hw7⟩ : ∃ y, y = (st3 (st6 w4 (w.heap.size + 1 + 1) (.int .i64 kd) (.int .i64 sz) (.int .i64 rm) (.int .i64 fr) (.slice a n c) (.int .i64 tm)) (w.heap.size + 1 + 1 + 1) (.string X) (.bool F) (.int .i64 E)).drew := ⟨_, rfl⟩
  have hw8 := hw7
  simp only [st6, st3] at hw8
  rw [← hw8]
  clear hw8
  obtain ⟨f1, f2, f3⟩ := D6.fin X4.out (.int .i64 kd) (.int .i64 sz) (.int .i64 rm) (.int .i64 fr) (.slice a n c) (.int .i64 tm) (.string X) (.bool F) (.int .i64 E)
  have HR1 : Hid (Sem.run Try.prog (loadVar 36 ⟨w.heap.size + 1 + 1, 0, none⟩) w7 = .ok (.agg #[.int .i64 kd, .int .i64 sz, .int .i64 rm, .int .i64 fr, .slice a n c, .int .i64 tm]) w7) := by
    refine load_port ?_
    rw [hw7, heap_drew]
    exact f1
  have HR2 : Hid (Sem.run Try.prog (loadVar 44 ⟨w.heap.size + 1 + 1 + 1, 0, none⟩) w7 = .ok (.agg #[.string X, .bool F, .int .i64 E]) w7) := by
    refine load_ans ?_
    rw [hw7, heap_drew]
    exact f2
  have HB7 : Hid (Below w.heap.size w w7) := by rw [hw7]; exact Below.drew f3
  clear f1 f2 f3 hw7
  go_wp2_with fail
  (try simp only [Exit.inBlock, Exit.then])
  refine bodyPost_ret (by simp [results, Try.results45]; rw [as_addr, Result.andThen_ok, HR1.out, Result.andThen_ok, as_addr, Result.andThen_ok, HR2.out, Result.andThen_ok]) rfl ?_
  exact ⟨rfl, HB7.out⟩
set_option maxRecDepth 20000 in
set_option maxHeartbeats 1600000 in
theorem do_rd_ok (kd sz rm fr tm : Int) (a : Option Addr) (n c : Nat) (now : Int) (s : ByteArray) (w : World) (q0 q1 q2 q3 q5 : Int) (X : ByteArray) (F : Bool) (li : List ByteArray)
    (HW : ∀ wx, Below w.heap.size w wx → Calls Try.prog 16 #[.agg #[.int .i64 kd, .int .i64 sz, .int .i64 rm, .int .i64 fr, .slice a n c, .int .i64 tm], .int .i64 now] wx fun e w' => (∃ u, e = .returned (.tuple #[.agg #[.int .i64 q0, .int .i64 q1, .int .i64 q2, .int .i64 q3, u, .int .i64 q5], .string X, .bool F, .int .i64 0]) ∧ OwnS w' wx.heap.size u li) ∧ Below wx.heap.size wx w') :
    Calls Try.prog 45 #[.agg #[.int .i64 kd, .int .i64 sz, .int .i64 rm, .int .i64 fr, .slice a n c, .int .i64 tm], .agg #[.int .i64 2, .int .i64 now, .string s]] w fun e w' => (∃ u, e = .returned (.tuple #[.agg #[.int .i64 q0, .int .i64 q1, .int .i64 q2, .int .i64 q3, u, .int .i64 q5], .agg #[.string X, .bool F, .int .i64 0]]) ∧ OwnS w' w.heap.size u li) ∧ Below w.heap.size w w' := by
  have HM := hid HW
  clear HW
  go_enter Try.func45, Try.ntmps45
  go_wp2_with (go_at_call 16; refine (HM.out _ (by go_grown)).mono ?_; rintro e w2 ⟨⟨u, rfl, ho2⟩, b2⟩; obtain ⟨au, nu, cu, hu⟩ : ∃ au nu cu, u = .slice au nu cu := (by obtain ⟨a9, c9, e9⟩ := RowG.Own.slice ho2; exact ⟨_, _, _, e9⟩); subst hu; have HO2 := hid (RowG.Own.base ho2 (show w.heap.size ≤ _ by have := (D6.start w #[.int .i64 kd, .int .i64 sz, .int .i64 rm, .int .i64 fr, .slice a n c, .int .i64 tm] #[.int .i64 2, .int .i64 now, .string s] #[.int .i64 0, .int .i64 0, .int .i64 0, .int .i64 0, .slice none 0 0, .int .i64 0] z3 #[.int .i64 0, .int .i64 0, .int .i64 0, .int .i64 0, .slice none 0 0, .int .i64 0] z3).b.size; exact this)); have X2 := hid ((D6.start w #[.int .i64 kd, .int .i64 sz, .int .i64 rm, .int .i64 fr, .slice a n c, .int .i64 tm] #[.int .i64 2, .int .i64 now, .string s] #[.int .i64 0, .int .i64 0, .int .i64 0, .int .i64 0, .slice none 0 0, .int .i64 0] z3 #[.int .i64 0, .int .i64 0, .int .i64 0, .int .i64 0, .slice none 0 0, .int .i64 0] z3).step b2); obtain ⟨p0, p1, p2, p3, p4, p5⟩ := six_of X2.out.p; obtain ⟨o0, o1, o2⟩ := three_of X2.out.o; obtain ⟨n0, n1, n2, n3, n4, n5⟩ := six_of X2.out.n; obtain ⟨t0, t1, t2⟩ := three_of X2.out.d; have m0 := froz_of X2.out.n 0; have m1 := froz_of X2.out.n 1; have m2 := froz_of X2.out.n 2; have m3 := froz_of X2.out.n 3; have m4 := froz_of X2.out.n 4; have m5 := froz_of X2.out.n 5; have k0 := froz_of X2.out.d 0; have k1 := froz_of X2.out.d 1; have k2 := froz_of X2.out.d 2; clear ho2 b2)
  obtain ⟨w4, hw4⟩ : ∃ y, y = st3 (st6 w2 (w.heap.size + 1 + 1 + 1 + 1) (.int .i64 q0) (.int .i64 q1) (.int .i64 q2) (.int .i64 q3) (.slice au nu cu) (.int .i64 q5)) (w.heap.size + 1 + 1 + 1 + 1 + 1) (.string X) (.bool F) (.int .i64 0) := ⟨_, rfl⟩
  have hw5 := hw4
  simp only [st6, st3] at hw5
  rw [← hw5]
  clear hw5
  have X4 : Hid (D6 w w4 #[.int .i64 kd, .int .i64 sz, .int .i64 rm, .int .i64 fr, .slice a n c, .int .i64 tm] #[.int .i64 2, .int .i64 now, .string s] #[.int .i64 0, .int .i64 0, .int .i64 0, .int .i64 0, .slice none 0 0, .int .i64 0] z3 #[.int .i64 q0, .int .i64 q1, .int .i64 q2, .int .i64 q3, .slice au nu cu, .int .i64 q5] #[.string X, .bool F, .int .i64 0]) := by rw [hw4]; exact (X2.out.next (.int .i64 q0) (.int .i64 q1) (.int .i64 q2) (.int .i64 q3) (.slice au nu cu) (.int .i64 q5)).told (.string X) (.bool F) (.int .i64 0)
  have HO4 : Hid (OwnS w4 w.heap.size (.slice au nu cu) li) := by rw [hw4]; exact own_told (X2.out.next (.int .i64 q0) (.int .i64 q1) (.int .i64 q2) (.int .i64 q3) (.slice au nu cu) (.int .i64 q5)) (own_next X2.out HO2.out (.int .i64 q0) (.int .i64 q1) (.int .i64 q2) (.int .i64 q3) (.slice au nu cu) (.int .i64 q5)) (.string X) (.bool F) (.int .i64 0)
  clear hw4
  clear p0 p1 p2 p3 p4 p5 o0 o1 o2 n0 n1 n2 n3 n4 n5 t0 t1 t2 m0 m1 m2 m3 m4 m5 k0 k1 k2
  obtain ⟨p0, p1, p2, p3, p4, p5⟩ := six_of X4.out.n
  obtain ⟨t0, t1, t2⟩ := three_of X4.out.d
  obtain ⟨r0, r1, r2, r3, r4, r5⟩ := six_of X4.out.r
  obtain ⟨s0, s1, s2⟩ := three_of X4.out.t
  have m0 := froz_of X4.out.r 0
  have m1 := froz_of X4.out.r 1
  have m2 := froz_of X4.out.r 2
  have m3 := froz_of X4.out.r 3
  have m4 := froz_of X4.out.r 4
  have m5 := froz_of X4.out.r 5
  have k0 := froz_of X4.out.t 0
  have k1 := froz_of X4.out.t 1
  have k2 := froz_of X4.out.t 2
  go_region
  obtain ⟨w7, hw7⟩ : ∃ y, y = (st3 (st6 w4 (w.heap.size + 1 + 1) (.int .i64 q0) (.int .i64 q1) (.int .i64 q2) (.int .i64 q3) (.slice au nu cu) (.int .i64 q5)) (w.heap.size + 1 + 1 + 1) (.string X) (.bool F) (.int .i64 0)).drew := ⟨_, rfl⟩
  have hw8 := hw7
  simp only [st6, st3] at hw8
  rw [← hw8]
  clear hw8
  obtain ⟨f1, f2, f3⟩ := D6.fin X4.out (.int .i64 q0) (.int .i64 q1) (.int .i64 q2) (.int .i64 q3) (.slice au nu cu) (.int .i64 q5) (.string X) (.bool F) (.int .i64 0)
  have HR1 : Hid (Sem.run Try.prog (loadVar 36 ⟨w.heap.size + 1 + 1, 0, none⟩) w7 = .ok (.agg #[.int .i64 q0, .int .i64 q1, .int .i64 q2, .int .i64 q3, .slice au nu cu, .int .i64 q5]) w7) := by
    refine load_port ?_
    rw [hw7, heap_drew]
    exact f1
  have HR2 : Hid (Sem.run Try.prog (loadVar 44 ⟨w.heap.size + 1 + 1 + 1, 0, none⟩) w7 = .ok (.agg #[.string X, .bool F, .int .i64 0]) w7) := by
    refine load_ans ?_
    rw [hw7, heap_drew]
    exact f2
  have HB7 : Hid (Below w.heap.size w w7) := by rw [hw7]; exact Below.drew f3
  have HO7 : Hid (OwnS w7 w.heap.size (.slice au nu cu) li) := by rw [hw7]; exact own_drew (own_fin X4.out HO4.out (.int .i64 q0) (.int .i64 q1) (.int .i64 q2) (.int .i64 q3) (.slice au nu cu) (.int .i64 q5) (.string X) (.bool F) (.int .i64 0))
  clear f1 f2 f3 hw7
  go_wp2_with fail
  (try simp only [Exit.inBlock, Exit.then])
  refine bodyPost_ret (by simp [results, Try.results45]; rw [as_addr, Result.andThen_ok, HR1.out, Result.andThen_ok, as_addr, Result.andThen_ok, HR2.out, Result.andThen_ok]) rfl ?_
  exact ⟨⟨_, rfl, HO7.out⟩, HB7.out⟩
set_option maxRecDepth 20000 in
set_option maxHeartbeats 1600000 in
theorem do_none (kd sz rm fr tm : Int) (a : Option Addr) (n c : Nat) (k now : Int) (s : ByteArray) (w : World) (h1 : (k == 1) = false) (h2 : (k == 2) = false) :
    Calls Try.prog 45 #[.agg #[.int .i64 kd, .int .i64 sz, .int .i64 rm, .int .i64 fr, .slice a n c, .int .i64 tm], .agg #[.int .i64 k, .int .i64 now, .string s]] w fun e w' => e = .returned (.tuple #[.agg #[.int .i64 kd, .int .i64 sz, .int .i64 rm, .int .i64 fr, .slice a n c, .int .i64 tm], .agg #[.string e0, .bool false, .int .i64 1]]) ∧ Below w.heap.size w w' := by
  go_enter Try.func45, Try.ntmps45
  go_wp2_with fail
  obtain ⟨w4, hw4⟩ : ∃ y, y = ((((((w.alloc (.cells #[.int .i64 kd, .int .i64 sz, .int .i64 rm, .int .i64 fr, .slice a n c, .int .i64 tm] 36)).alloc (.cells #[.int .i64 k, .int .i64 now, .string s] 48)).alloc (.cells #[.int .i64 0, .int .i64 0, .int .i64 0, .int .i64 0, .slice none 0 0, .int .i64 0] 36)).alloc (.cells z3 44)).alloc (.cells #[.int .i64 0, .int .i64 0, .int .i64 0, .int .i64 0, .slice none 0 0, .int .i64 0] 36)).alloc (.cells #[.string e0, .bool false, .int .i64 1] 44)) := ⟨_, rfl⟩
  have X4 : Hid (D6 w w4 #[.int .i64 kd, .int .i64 sz, .int .i64 rm, .int .i64 fr, .slice a n c, .int .i64 tm] #[.int .i64 k, .int .i64 now, .string s] #[.int .i64 0, .int .i64 0, .int .i64 0, .int .i64 0, .slice none 0 0, .int .i64 0] z3 #[.int .i64 0, .int .i64 0, .int .i64 0, .int .i64 0, .slice none 0 0, .int .i64 0] #[.string e0, .bool false, .int .i64 1]) := by rw [hw4]; exact D6.start _ _ _ _ _ _ _
  rw [← hw4]
  clear hw4
  obtain ⟨p0, p1, p2, p3, p4, p5⟩ := six_of X4.out.p
  obtain ⟨t0, t1, t2⟩ := three_of X4.out.d
  obtain ⟨r0, r1, r2, r3, r4, r5⟩ := six_of X4.out.r
  obtain ⟨s0, s1, s2⟩ := three_of X4.out.t
  have m0 := froz_of X4.out.r 0
  have m1 := froz_of X4.out.r 1
  have m2 := froz_of X4.out.r 2
  have m3 := froz_of X4.out.r 3
  have m4 := froz_of X4.out.r 4
  have m5 := froz_of X4.out.r 5
  have k0 := froz_of X4.out.t 0
  have k1 := froz_of X4.out.t 1
  have k2 := froz_of X4.out.t 2
  go_region
  obtain ⟨w7, hw7⟩ : ∃ y, y = (st3 (st6 w4 (w.heap.size + 1 + 1) (.int .i64 kd) (.int .i64 sz) (.int .i64 rm) (.int .i64 fr) (.slice a n c) (.int .i64 tm)) (w.heap.size + 1 + 1 + 1) (.string e0) (.bool false) (.int .i64 1)).drew := ⟨_, rfl⟩
  have hw8 := hw7
  simp only [st6, st3] at hw8
  rw [← hw8]
  clear hw8
  obtain ⟨f1, f2, f3⟩ := D6.fin X4.out (.int .i64 kd) (.int .i64 sz) (.int .i64 rm) (.int .i64 fr) (.slice a n c) (.int .i64 tm) (.string e0) (.bool false) (.int .i64 1)
  have HR1 : Hid (Sem.run Try.prog (loadVar 36 ⟨w.heap.size + 1 + 1, 0, none⟩) w7 = .ok (.agg #[.int .i64 kd, .int .i64 sz, .int .i64 rm, .int .i64 fr, .slice a n c, .int .i64 tm]) w7) := by
    refine load_port ?_
    rw [hw7, heap_drew]
    exact f1
  have HR2 : Hid (Sem.run Try.prog (loadVar 44 ⟨w.heap.size + 1 + 1 + 1, 0, none⟩) w7 = .ok (.agg #[.string e0, .bool false, .int .i64 1]) w7) := by
    refine load_ans ?_
    rw [hw7, heap_drew]
    exact f2
  have HB7 : Hid (Below w.heap.size w w7) := by rw [hw7]; exact Below.drew f3
  clear f1 f2 f3 hw7
  go_wp2_with fail
  (try simp only [Exit.inBlock, Exit.then])
  refine bodyPost_ret (by simp [results, Try.results45]; rw [as_addr, Result.andThen_ok, HR1.out, Result.andThen_ok, as_addr, Result.andThen_ok, HR2.out, Result.andThen_ok]) rfl ?_
  exact ⟨rfl, HB7.out⟩
end PortC
end Go.Proofs.Ytllfpbngfkimlaa
