/- Package port: checkNow, copyOf, what each kind of port does. -/
import Derived.Test.YtllfpbngfkimlaaPrtB
import Derived.Laws.AppendOwnNone
import Derived.Deep.MidRow
set_option linter.unusedVariables false
namespace Go.Proofs.Ytllfpbngfkimlaa
open Go.RowKit
open Go.Shelf Go.Sort
open SpanM SpanC IntsC
namespace PortC
open PrtM
/-- cells of rows that are read, as an append wants them -/
theorem Rd.news {α : Type} {E : RowG.Enc α} {w : World} {b off : Nat} {l : List α} (h : RowG.Rd E w (some ⟨b, off, none⟩) l) (hk : 0 < E.k) : ∀ j u, (E.flat l)[j]? = some u → w.cell? ((⟨b, off, none⟩ : Addr).add j) = some u := by
  intro j u hj
  have hlt : j < l.length * E.k := by have := (List.getElem?_eq_some_iff.1 hj).1; rwa [RowG.flat_length] at this
  have hi : j / E.k < l.length := Nat.div_lt_of_lt_mul (by rw [Nat.mul_comm]; exact hlt)
  have hr : j % E.k < E.k := Nat.mod_lt _ hk
  have hjd : j / E.k * E.k + j % E.k = j := by rw [Nat.mul_comm]; exact Nat.div_add_mod _ _
  obtain ⟨b', off', e, hc⟩ := RowG.Rd.at h _ hi
  simp only [Option.some.injEq, Addr.mk.injEq, and_true] at e
  obtain ⟨rfl, rfl⟩ := e
  have h1 := hc _ hr
  have h2 := RowG.flat_get E l _ _ hi hr
  rw [hjd] at h2
  rw [RowG.add_off, ← hjd, ← Nat.add_assoc, h1, ← h2, hj]
theorem wpList_appG {α : Type} {E : RowG.Enc α} {e t : Nat} {i : TypeInfo} {z : Value} {bytes : Nat} {ops : Array Oper} {rest : List Oper} {o : Oper} {a : Act} {Q : Exit → Act → World → Prop} {w : World} (hgd : o.guard = none) (s x : Operand)
    (ho : o.op = .call { callee := .builtin .append, args := #[s, x], argTypes := #[t, t] })
    (ht : Try.prog.underlying t = some (.slice e)) (hi : Try.prog.info? e = some i) (hz : i.zero = some z) (hsize : i.size = E.k) (hby : i.bytes = bytes) (hzs : z.cells.size = E.k) (hk : 0 < E.k) (hb64 : bytes ≤ 64)
    (B : Nat) (v : Value) (l m : List α) (sa : Option Addr) (cap : Nat) (hs : a.eval s = v) (hown : RowG.Own E e w B v l) (hx : a.eval x = .slice sa m.length cap) (hm : RowG.Rd E w sa m) (hn : sa = none → m.length = 0 ∧ cap = 0)
    (hl : l.length + m.length ≤ 100000) (hB : B ≤ w.heap.size)
    (h : ∀ v' w', RowG.Own E e w' B v' (l ++ m) → w.grownBy w' v.ownBlock → wpList Try.prog ops Q rest (a.put o.dst v') w') : wpList Try.prog ops Q (o :: rest) a w := by
  cases sa with
  | none =>
    obtain ⟨h1, h2⟩ := hn rfl
    have h3 : m = [] := List.length_eq_zero_iff.1 h1
    subst h3 h2
    refine wpList_append_own_none hgd s x t ho B e i E.k ht hi v l.length (E.flat l) hs hown hx ?_
    exact h v w (by rw [List.append_nil]; exact hown) (grown_refl w _)
  | some ad =>
    by_cases h0 : m = []
    · subst h0
      refine wpList_append_own _ hgd s x t ho B e i z E.k bytes ht hi hz hsize hby hzs hk v l.length (E.flat l) hs hown ad 0 cap [] hx (by simp) (fun j u hj => by simp at hj) (fun u hu => by simp at hu) (by unfold maxLen; omega) ?_ hB ?_
      · exact Nat.le_trans (Nat.mul_le_mul (by simpa using hl) hb64) (by decide)
      · intro v' w' q1 q2 _
        refine h v' w' ?_ q2
        rw [List.append_nil]
        simpa [RowG.Own] using q1
    · have hp : 0 < m.length := List.length_pos_iff.2 h0
      obtain ⟨b, off, e0, _⟩ := RowG.Rd.at hm 0 hp
      simp only [Option.some.injEq] at e0
      subst e0
      refine wpList_append_own _ hgd s x t ho B e i z E.k bytes ht hi hz hsize hby hzs hk v l.length (E.flat l) hs hown _ m.length cap (E.flat m) hx (RowG.flat_length E m) (Rd.news hm hk) (RowG.flat_one E m) (by unfold maxLen; omega) ?_ hB ?_
      · exact Nat.le_trans (Nat.mul_le_mul hl hb64) (by decide)
      · intro v' w' q1 q2 _
        refine h v' w' ?_ q2
        unfold RowG.Own
        rw [RowG.flat_append, List.length_append]
        exact q1
theorem wpList_appS {ops : Array Oper} {rest : List Oper} {o : Oper} {a : Act} {Q : Exit → Act → World → Prop} {w : World} (hgd : o.guard = none) (s x : Operand)
    (ho : o.op = .call { callee := .builtin .append, args := #[s, x], argTypes := #[34, 34] })
    (B : Nat) (v : Value) (l m : List ByteArray) (sa : Option Addr) (cap : Nat) (hs : a.eval s = v) (hown : OwnS w B v l) (hx : a.eval x = .slice sa m.length cap) (hm : RdS w sa m) (hn : sa = none → m.length = 0 ∧ cap = 0)
    (hl : l.length + m.length ≤ 100000) (hB : B ≤ w.heap.size)
    (h : ∀ v' w', OwnS w' B v' (l ++ m) → w.grownBy w' v.ownBlock → wpList Try.prog ops Q rest (a.put o.dst v') w') : wpList Try.prog ops Q (o :: rest) a w := by
  obtain ⟨i0, hi, hz0, hz1, hz2⟩ := info_parts infoStr
  exact wpList_appG hgd s x ho Try.underlying34 hi hz0 hz1 hz2 rfl (by decide) (by decide) B v l m sa cap hs hown hx hm hn hl hB h
/-- one text in a new block -/
theorem own_one (w : World) (B : Nat) (hB : B ≤ w.heap.size) (s : ByteArray) : OwnS (w.alloc (.cells #[.string s] 9)) B (vS w.heap.size 1 1) [s] :=
  ⟨rfl, .inr ⟨w.heap.size, 1, #[.string s], rfl, hB, heap_alloc_new w _, Nat.le_refl _, by decide, rfl, rfl⟩⟩
theorem copyOf_any (a : Option Addr) (c : Nat) (l : List ByteArray) (w : World) (hr : RdS w a l) (hn : a = none → l.length = 0 ∧ c = 0) (hl : l.length ≤ 1000) :
    Calls Try.prog 81 #[.slice a l.length c] w fun e w' => (∃ v, e = .returned v ∧ OwnS w' w.heap.size v l) ∧ Below w.heap.size w w' := by
  have HR := hid hr
  have HN := hid hn
  have HL := hid hl
  clear hr hn hl
  go_enter Try.func81, Try.ntmps81
  go_wp2_with (at_builtin; refine wpList_appS rfl _ _ rfl w.heap.size _ [] l a c rfl (RowG.Own.nil _ _ _ _) rfl HR.out HN.out (by have := HL.out; simp; omega) (Nat.le_refl _) ?_)
  intro v' w' ho hg
  have HO := hid ho
  have HG := hid hg
  clear ho hg
  go_wp2_with fail
  go_ret
  exact ⟨⟨_, rfl, HO.out⟩, Below.grown (Below.refl _ w) HG.out (Nat.le_refl _) (by intro k hk; simp [Value.ownBlock] at hk)⟩
/-- what checkNow says -/
def nowE (p : Pt) (now : Int) : Int := if chk p ≠ 0 then chk p else if ¬ (p.tm ≤ now ∧ now ≤ big) then 1 else 0
set_option maxRecDepth 20000 in
set_option maxHeartbeats 400000 in
theorem checkNow_any (p : Pt) (a : Option Addr) (c : Nat) (now : Int) (w : World) (hr : RdS w a p.texts) :
    Calls Try.prog 40 #[vP p (.slice a p.texts.length c), .int .i64 now] w fun e w' => e = .returned (.int .i64 (nowE p now)) ∧ Below w.heap.size w w' := by
  have HC := hid (fun wx (hb : Below w.heap.size w wx) => Check_any p a c wx (hr.below hb (Nat.le_refl _)))
  obtain ⟨kd, sz, rm, fr, l, tm⟩ := p
  by_cases h0 : chk ⟨kd, sz, rm, fr, l, tm⟩ = 0
  · by_cases h1 : tm ≤ now ∧ now ≤ 1099511627776
    · have HE : Hid (nowE ⟨kd, sz, rm, fr, l, tm⟩ now = 0) := by show _ = _; unfold nowE; rw [if_neg (by simp [h0]), if_neg (by simpa using h1)]
      rw [h0] at HC
      have HW := hid (fun wx => within_yes now tm 1099511627776 wx h1)
      clear h1 h0 hr
      generalize nowE ⟨kd, sz, rm, fr, l, tm⟩ now = E at *
      have HE' := hid HE.out.symm
      clear HE
      go_enter Try.func40, Try.ntmps40
      go_wp2_with (first | (go_at_call 18; refine (HC.out _ (B1.start w _ 36).bel).mono ?_; rintro e w2 ⟨rfl, hb2⟩; have X2 := hid ((B1.start w _ 36).step hb2); obtain ⟨d0, d1, d2, d3, d4, d5⟩ := B1.six X2.out; clear hb2) | (go_at_call 42; (with_reducible refine (HW.out _).mono ?_); rintro e wb ⟨rfl, rfl⟩))
      go_ret
      exact ⟨ret_int HE'.out, X2.out.bel⟩
    · have HE : Hid (nowE ⟨kd, sz, rm, fr, l, tm⟩ now = 1) := by show _ = _; unfold nowE; rw [if_neg (by simp [h0]), if_pos (by simpa using h1)]
      rw [h0] at HC
      have HW := hid (fun wx => within_no now tm 1099511627776 wx h1)
      clear h1 h0 hr
      generalize nowE ⟨kd, sz, rm, fr, l, tm⟩ now = E at *
      have HE' := hid HE.out.symm
      clear HE
      go_enter Try.func40, Try.ntmps40
      go_wp2_with (first | (go_at_call 18; refine (HC.out _ (B1.start w _ 36).bel).mono ?_; rintro e w2 ⟨rfl, hb2⟩; have X2 := hid ((B1.start w _ 36).step hb2); obtain ⟨d0, d1, d2, d3, d4, d5⟩ := B1.six X2.out; clear hb2) | (go_at_call 42; (with_reducible refine (HW.out _).mono ?_); rintro e wb ⟨rfl, rfl⟩))
      go_ret
      exact ⟨ret_int HE'.out, X2.out.bel⟩
  · have HE : Hid (nowE ⟨kd, sz, rm, fr, l, tm⟩ now = chk ⟨kd, sz, rm, fr, l, tm⟩) := by show _ = _; unfold nowE; rw [if_pos h0]
    have hq : (chk ⟨kd, sz, rm, fr, l, tm⟩ != 0) = true := by simp [h0]
    generalize nowE ⟨kd, sz, rm, fr, l, tm⟩ now = E at *
    generalize chk ⟨kd, sz, rm, fr, l, tm⟩ = C at *
    clear h0 hr
    have HE' := hid HE.out.symm
    clear HE
    go_enter Try.func40, Try.ntmps40
    go_wp2_with (first | (go_at_call 18; refine (HC.out _ (B1.start w _ 36).bel).mono ?_; rintro e w2 ⟨rfl, hb2⟩; have X2 := hid ((B1.start w _ 36).step hb2); obtain ⟨d0, d1, d2, d3, d4, d5⟩ := B1.six X2.out; clear hb2))
    go_ret
    exact ⟨ret_int HE'.out, X2.out.bel⟩
set_option maxRecDepth 20000 in
set_option maxHeartbeats 400000 in
theorem swr_any (kd sz rm fr tm : Int) (v : Value) (s : ByteArray) (now : Int) (w : World) :
    Calls Try.prog 80 #[.agg #[], .agg #[.int .i64 kd, .int .i64 sz, .int .i64 rm, .int .i64 fr, v, .int .i64 tm], .string s, .int .i64 now] w fun e w' => (∃ u, e = .returned (.tuple #[.agg #[.int .i64 kd, .int .i64 sz, .int .i64 rm, .int .i64 fr, u, .int .i64 now], .int .i64 0]) ∧ OwnS w' w.heap.size u [s]) ∧ Below w.heap.size w w' := by
  go_enter Try.func80, Try.ntmps80
  go_wp2_with fail
  go_returns
  refine ⟨⟨_, rfl, ?_⟩, by go_grown⟩
  have := own_one (((w.alloc (.cells #[] 110)).alloc (.cells #[.int .i64 kd, .int .i64 sz, .int .i64 rm, .int .i64 fr, .slice (some ⟨w.heap.size + 1 + 1 + 1, 0, none⟩) 1 1, .int .i64 now] 36)).alloc (.cells #[.int .i64 kd, .int .i64 sz, .int .i64 rm, .int .i64 fr, .slice (some ⟨w.heap.size + 1 + 1 + 1, 0, none⟩) 1 1, .int .i64 now] 36)) w.heap.size (by simp only [World.size_alloc]; omega) s
  simpa only [World.size_alloc] using this
/-- the cells of a block of six, and that they may be written -/
theorem six_of {W : World} {b T : Nat} {x0 x1 x2 x3 x4 x5 : Value} (h : W.heap[b]? = some (.cells #[x0, x1, x2, x3, x4, x5] T)) :
    W.cell? ⟨b, 0, none⟩ = some x0 ∧ W.cell? ⟨b, 1, none⟩ = some x1 ∧ W.cell? ⟨b, 2, none⟩ = some x2 ∧ W.cell? ⟨b, 3, none⟩ = some x3 ∧ W.cell? ⟨b, 4, none⟩ = some x4 ∧ W.cell? ⟨b, 5, none⟩ = some x5 :=
  ⟨box_cell h 0, box_cell h 1, box_cell h 2, box_cell h 3, box_cell h 4, box_cell h 5⟩
theorem froz_of {W : World} {b T : Nat} {c : Array Value} (h : W.heap[b]? = some (.cells c T)) (j : Nat) : W.frozen? ⟨b, j, none⟩ = false := by
  simp [World.frozen?, h]
theorem orow_heap {W W' : World} {B e size n : Nat} {v : Value} {xs : List Value} (h : W.ownsRow B e size v n xs) (hs : ∀ q, v.ownBlock = some q → W'.heap[q]? = W.heap[q]?) : W'.ownsRow B e size v n xs := by
  refine ⟨h.1, ?_⟩
  rcases h.2 with h0 | ⟨g', cap', cur, h1, h2, h3, h4⟩
  · exact .inl h0
  · exact .inr ⟨g', cap', cur, h1, h2, by rw [hs g' (by rw [h1]; rfl)]; exact h3, h4⟩
theorem own_set {w : World} {B T : Nat} {α : Type} {E : RowG.Enc α} {v : Value} {l : List α} (h : RowG.Own E T w B v l) (b j : Nat) (x : Value) (hne : v.ownBlock ≠ some b) : RowG.Own E T (w.setCell ⟨b, j, none⟩ x) B v l :=
  orow_heap h fun q hq => heap_setCell_other _ _ _ _ (fun e => hne (by rw [hq, e]))
theorem own_drew {w : World} {B T : Nat} {α : Type} {E : RowG.Enc α} {v : Value} {l : List α} (h : RowG.Own E T w B v l) : RowG.Own E T w.drew B v l := World.ownsRow.drew h
theorem bel_set {w W : World} {B : Nat} (h : Below B w W) (b j : Nat) (x : Value) (hb : B ≤ b) : Below B w (W.setCell ⟨b, j, none⟩ x) := h.setCell (p := ⟨b, j, none⟩) hb x
theorem heap_drew (w : World) : w.drew.heap = w.heap := rfl
/-- six cells are stored -/
abbrev st6 (w : World) (b : Nat) (x0 x1 x2 x3 x4 x5 : Value) : World := (((((w.setCell ⟨b, 0, none⟩ x0).setCell ⟨b, 1, none⟩ x1).setCell ⟨b, 2, none⟩ x2).setCell ⟨b, 3, none⟩ x3).setCell ⟨b, 4, none⟩ x4).setCell ⟨b, 5, none⟩ x5
theorem st6_heap {w : World} {b T : Nat} {z0 z1 z2 z3 z4 z5 x0 x1 x2 x3 x4 x5 : Value} (h : w.heap[b]? = some (.cells #[z0, z1, z2, z3, z4, z5] T)) : (st6 w b x0 x1 x2 x3 x4 x5).heap[b]? = some (.cells #[x0, x1, x2, x3, x4, x5] T) :=
  heap_setCell_same _ _ _ _ _ _ (heap_setCell_same _ _ _ _ _ _ (heap_setCell_same _ _ _ _ _ _ (heap_setCell_same _ _ _ _ _ _ (heap_setCell_same _ _ _ _ _ _ (heap_setCell_same _ _ _ _ _ _ h)))))
theorem st6_other {w : World} {b : Nat} (x0 x1 x2 x3 x4 x5 : Value) {k : Nat} (h : k ≠ b) : (st6 w b x0 x1 x2 x3 x4 x5).heap[k]? = w.heap[k]? := by
  unfold st6
  rw [heap_setCell_other _ _ _ _ h, heap_setCell_other _ _ _ _ h, heap_setCell_other _ _ _ _ h, heap_setCell_other _ _ _ _ h, heap_setCell_other _ _ _ _ h, heap_setCell_other _ _ _ _ h]
theorem st6_own {w : World} {B T b : Nat} {α : Type} {E : RowG.Enc α} {v x0 x1 x2 x3 x4 x5 : Value} {l : List α} (h : RowG.Own E T w B v l) (hne : v.ownBlock ≠ some b) : RowG.Own E T (st6 w b x0 x1 x2 x3 x4 x5) B v l :=
  orow_heap h fun q hq => st6_other _ _ _ _ _ _ (fun e => hne (by rw [hq, e]))
theorem st6_below {w W : World} {B b : Nat} {x0 x1 x2 x3 x4 x5 : Value} (h : Below B w W) (hb : B ≤ b) : Below B w (st6 W b x0 x1 x2 x3 x4 x5) :=
  bel_set (bel_set (bel_set (bel_set (bel_set (bel_set h _ _ _ hb) _ _ _ hb) _ _ _ hb) _ _ _ hb) _ _ _ hb) _ _ _ hb
theorem infoP : (Try.prog.info? 36).map (·.size) = some 6 := by kernel_rfl
theorem load_port {W : World} {b : Nat} {x0 x1 x2 x3 x4 x5 : Value} (h : W.heap[b]? = some (.cells #[x0, x1, x2, x3, x4, x5] 36)) :
    (loadVar 36 ⟨b, 0, none⟩).run Try.prog W = .ok (.agg #[x0, x1, x2, x3, x4, x5]) W :=
  run_loadVar_mid W _ 0 _ [x0, x1, x2, x3, x4, x5] _ (fun j v hv => by rw [Nat.zero_add, box_cell h]; simpa using hv) Try.underlying36 (by rfl) infoP
theorem as_addr (W : World) (p : Addr) : Sem.run Try.prog (asAddr (.pointer (some p))) W = .ok p W := rfl
theorem al3 (w : World) (o0 o1 o2 : Obj) : (((w.alloc o0).alloc o1).alloc o2).heap[w.heap.size + 1]? = some o1 ∧ (((w.alloc o0).alloc o1).alloc o2).heap[w.heap.size + 1 + 1]? = some o2 := by
  show (((w.heap.push o0).push o1).push o2)[_]? = _ ∧ (((w.heap.push o0).push o1).push o2)[_]? = _
  refine ⟨?_, ?_⟩
  · rw [Array.getElem?_push, if_neg (by simp), Array.getElem?_push, if_pos (by simp)]
  · rw [Array.getElem?_push, if_pos (by simp)]
abbrev z6 : Array Value := #[.int .i64 0, .int .i64 0, .int .i64 0, .int .i64 0, .slice none 0 0, .int .i64 0]
set_option maxRecDepth 20000 in
set_option maxHeartbeats 800000 in
theorem srd_any (kd sz rm fr tm : Int) (a : Option Addr) (c : Nat) (l : List ByteArray) (now : Int) (w : World) (hr : RdS w a l) (h0 : 0 < l.length) (hl : l.length ≤ 1000) (ht : 0 ≤ tm ∧ tm ≤ now ∧ now ≤ 1099511627776) :
    Calls Try.prog 79 #[.agg #[], .agg #[.int .i64 kd, .int .i64 sz, .int .i64 rm, .int .i64 fr, .slice a l.length c, .int .i64 tm], .int .i64 now] w fun e w' => (∃ u, e = .returned (.tuple #[.agg #[.int .i64 kd, .int .i64 sz, .int .i64 rm, .int .i64 fr, u, .int .i64 tm], .string (l.getD 0 e0), .bool (decide (now - tm ≤ fr))]) ∧ OwnS w' w.heap.size u l) ∧ Below w.heap.size w w' := by
  have HCP := hid (fun wx (hb : Below w.heap.size w wx) => copyOf_any a c l wx (hr.below hb (Nat.le_refl _)) (fun e => by obtain ⟨b, off, e1, _⟩ := RdS.get hr 0 h0; rw [e] at e1; cases e1) hl)
  have H0 := hid h0
  have hwr : IntKind.i64.wrap (now - tm) = now - tm := by rw [IntKind.wrap_i64]; omega
  obtain ⟨n, hn⟩ : ∃ n, n = l.length := ⟨_, rfl⟩
  rw [← hn] at HCP ⊢
  have HN := hid hn
  have hn0 : 0 < n := by omega
  clear hr h0 hl hn
  go_enter Try.func79, Try.ntmps79
  go_wp2_with (go_at_call 81; refine (HCP.out _ (by go_grown)).mono ?_; rintro e w2 ⟨⟨v2, rfl, ho2⟩, hb2⟩; obtain ⟨g, cap, rfl, hg1, hg2, hg3, hg4⟩ := RowG.Own.pos ho2 H0.out; have HO2 := hid ho2; have HB2 := hid hb2; obtain ⟨q1, q2⟩ := al3 w (.cells #[] 110) (.cells #[.int .i64 kd, .int .i64 sz, .int .i64 rm, .int .i64 fr, .slice a n c, .int .i64 tm] 36) (.cells z6 36); have Q1 := hid ((hb2.block _ (by simp only [World.size_alloc]; omega)).trans q1); have Q2 := hid ((hb2.block _ (by simp only [World.size_alloc]; omega)).trans q2); obtain ⟨d0, d1, d2, d3, d4, d5⟩ := six_of Q1.out; have df := froz_of Q1.out 4; clear ho2 hb2 q1 q2)
  obtain ⟨w3, hw3⟩ : ∃ y, y = w2.setCell ⟨w.heap.size + 1, 4, none⟩ (.slice (some ⟨g, 0, none⟩) l.length cap) := ⟨_, rfl⟩
  have hsz2 := HB2.out.size
  simp only [World.size_alloc] at hg1 hsz2
  have q3 : w3.heap[w.heap.size + 1]? = some (.cells #[.int .i64 kd, .int .i64 sz, .int .i64 rm, .int .i64 fr, .slice (some ⟨g, 0, none⟩) l.length cap, .int .i64 tm] 36) := by
    rw [hw3, heap_setCell_same _ _ _ _ _ _ Q1.out]; rfl
  have q4 : w3.heap[w.heap.size + 1 + 1]? = some (.cells z6 36) := by
    rw [hw3, heap_setCell_other _ _ _ _ (by simp), Q2.out]
  have HO3 : Hid (OwnS w3 w.heap.size (.slice (some ⟨g, 0, none⟩) l.length cap) l) := by
    refine orow_heap (RowG.Own.base HO2.out (by simp only [World.size_alloc]; omega)) fun q hq => ?_
    simp [Value.ownBlock] at hq
    rw [hw3, heap_setCell_other _ _ _ _ (by simp; omega)]
  have HB3 : Hid (Below w.heap.size w w3) := by
    rw [hw3]
    exact (Below.trans (by go_grown) (HB2.out.mono (by simp only [World.size_alloc]; omega))).setCell (p := ⟨w.heap.size + 1, 4, none⟩) (by simp) _
  have hx := RowG.Own.cell HO3.out 0 0 H0.out (by decide)
  have e0' : 0 * ES.k + 0 = 0 := by simp
  rw [e0'] at hx
  replace hx : w3.cell? ⟨g, 0, none⟩ = some (.string (l.getD 0 e0)) := by rw [hx]; simp [ES, List.getD, H0.out]
  rw [← HN.out] at q3 HO3 hw3 ⊢
  rw [← hw3]
  have n1 : ¬ g = w.heap.size + 1 + 1 := by omega
  have n2 : ¬ w.heap.size + 1 + 1 = g := by omega
  clear hw3 hg1 hg2 hg3 hg4 hsz2 d0 d1 d2 d3 d4 d5 df
  generalize hX : l.getD 0 e0 = X at hx
  have HX := hid hX
  clear hX
  have hn1 : (0 : Int) < (n : Int) := by omega
  obtain ⟨d0, d1, d2, d3, d4, d5⟩ := six_of q3
  obtain ⟨y0, y1, y2, y3, y4, y5⟩ := six_of q4
  have y6 := froz_of q4 0
  have y7 := froz_of q4 1
  have y8 := froz_of q4 2
  have y9 := froz_of q4 3
  have y10 := froz_of q4 4
  have y11 := froz_of q4 5
  have HQ4 := hid q4
  clear q3 q4
  go_region
  obtain ⟨w4, hw4⟩ : ∃ y, y = (st6 w3 (w.heap.size + 1 + 1) (.int .i64 kd) (.int .i64 sz) (.int .i64 rm) (.int .i64 fr) (.slice (some ⟨g, 0, none⟩) n cap) (.int .i64 tm)).drew := ⟨_, rfl⟩
  have hne : (Value.slice (some ⟨g, 0, none⟩) n cap).ownBlock ≠ some (w.heap.size + 1 + 1) := by simp [Value.ownBlock]; omega
  have HO4 : Hid (OwnS w4 w.heap.size (.slice (some ⟨g, 0, none⟩) n cap) l) := by rw [hw4]; exact own_drew (st6_own HO3.out hne)
  have HB4 : Hid (Below w.heap.size w w4) := by rw [hw4]; exact Below.drew (st6_below HB3.out (by omega))
  have q5 : w4.heap[w.heap.size + 1 + 1]? = some (.cells #[.int .i64 kd, .int .i64 sz, .int .i64 rm, .int .i64 fr, .slice (some ⟨g, 0, none⟩) n cap, .int .i64 tm] 36) := by rw [hw4, heap_drew]; exact st6_heap HQ4.out
  rw [← hw4]
  clear hw4 d0 d1 d2 d3 d4 d5 y0 y1 y2 y3 y4 y5 y6 y7 y8 y9 y10 y11
  have HRES := hid (load_port q5)
  clear q5
  go_wp2_with fail
  (try simp only [Exit.inBlock, Exit.then])
  refine bodyPost_ret (by simp [results, Try.results79]; rw [as_addr, Result.andThen_ok, HRES.out, Result.andThen_ok]) rfl ?_
  exact ⟨⟨_, by rw [HX.out], HO4.out⟩, HB4.out⟩
end PortC
end Go.Proofs.Ytllfpbngfkimlaa
