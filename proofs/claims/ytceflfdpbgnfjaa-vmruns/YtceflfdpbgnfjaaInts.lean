/- Rows of ints, boxes, appends: what every later text wants, with few imports (taken together out of PlyA, PlyB, RepB, RepV and stage 8's texts). -/
import Derived.Test.YtceflfdpbgnfjaaSupI
import Derived.Test.YtceflfdpbgnfjaaNumC
import Derived.Shelf.RegionOpenPlain
import Derived.Shelf.SlSortCmp.QuietGrown
import Derived.Deep.AppendLies
import Derived.Deep.RegionHeld3
import Derived.BigQuiet
set_option linter.unusedVariables false
namespace Go.Proofs.Ytceflfdpbgnfjaa
open Go.RowKit
open Go.Shelf Go.Sort
open SpanM SpanC
namespace IntsC
open NumC (Row)
theorem Row.below {w w' : World} {a : Option Addr} {l : List Int} {B : Nat} (h : Row w a l) (hb : Below B w w') (hB : w.heap.size ≤ B) : Row w' a l := by
  rcases h with rfl | ⟨b, off, rfl, h⟩
  · exact .inl rfl
  · refine .inr ⟨b, off, rfl, fun i hi => ?_⟩
    have h1 := h i hi
    have hlt := World.block_lt_of_cell? w _ h1
    exact (hb.cell (by simpa using Nat.lt_of_lt_of_le hlt hB)).trans h1
theorem Row.at {w : World} {a : Option Addr} {l : List Int} (h : Row w a l) (k : Nat) (hk : k < l.length) : ∃ b off, a = some ⟨b, off, none⟩ ∧ b < w.heap.size ∧ w.cell? ⟨b, off + k, none⟩ = some (.int .i64 (l.getD k 0)) := by
  rcases h with rfl | ⟨b, off, rfl, h⟩
  · simp at hk
  · exact ⟨b, off, rfl, World.block_lt_of_cell? w _ (h k hk), h k hk⟩
theorem in_snoc (l : List Int) (k : Nat) (h : k < l.length) : l.take (k + 1) = l.take k ++ [l.getD k 0] := by
  rw [List.take_succ_eq_append_getElem h]; simp [List.getD, h]
theorem in_mem {l : List Int} {k : Nat} (h : k < l.length) : l.getD k 0 ∈ l := by simp [List.getD, h]
theorem box_cell {w : World} {bx T : Nat} {c : Array Value} {z : Nat × Nat} (h : w.heap[bx]? = some (.cells c T z)) (j : Nat) : w.cell? ⟨bx, j, none⟩ = c[j]? := by
  simp [World.cell?, h]
theorem box_below {w w' : World} {bx T B : Nat} {c : Array Value} {z : Nat × Nat} (h : w.heap[bx]? = some (.cells c T z)) (hb : Below B w w') (hB : w.heap.size ≤ B) : w'.heap[bx]? = some (.cells c T z) := by
  have := (Array.getElem?_eq_some_iff.1 h).1
  rw [hb.block bx (by omega), h]
theorem box_grown {w w' : World} {bx T : Nat} {row : Option Nat} {c : Array Value} {z : Nat × Nat} (h : w.heap[bx]? = some (.cells c T z)) (hb : w.grownBy w' row) (hn : some bx ≠ row) : w'.heap[bx]? = some (.cells c T z) := by
  have := (Array.getElem?_eq_some_iff.1 h).1
  rw [hb.block bx this hn, h]
theorem box_alloc {w : World} {bx T : Nat} {c : Array Value} {z : Nat × Nat} (h : w.heap[bx]? = some (.cells c T z)) (o : Obj) : (w.alloc o).heap[bx]? = some (.cells c T z) := by
  have := (Array.getElem?_eq_some_iff.1 h).1
  show (w.heap.push o)[bx]? = _
  rw [Array.getElem?_push, if_neg (by omega), h]
theorem box_new (w : World) (c : Array Value) (T : Nat) : (w.alloc (.cells c T)).heap[w.heap.size]? = some (.cells c T) := heap_alloc_new w _
theorem OwnI.row {w : World} {B : Nat} {v : Value} {l : List Int} (h : OwnI w B v l) : ∃ a cap, v = .slice a l.length cap ∧ Row w a l ∧ (a = none → l.length = 0 ∧ cap = 0) := by
  rcases OwnI.form h with ⟨rfl, rfl⟩ | ⟨g, cap, rfl, _⟩
  · exact ⟨none, 0, rfl, .inl rfl, fun _ => ⟨rfl, rfl⟩⟩
  · exact ⟨_, cap, rfl, .inr ⟨g, 0, rfl, fun i hi => by rw [Nat.zero_add]; exact OwnI.cell h i hi⟩, by simp⟩
theorem OwnI.set {w : World} {B g n cap : Nat} {l : List Int} (h : OwnI w B (.slice (some ⟨g, 0, none⟩) n cap) l) (hn : n = l.length) (k : Nat) (v : Int) :
    OwnI (w.setCell ⟨g, k, none⟩ (.int .i64 v)) B (.slice (some ⟨g, 0, none⟩) n cap) (l.set k v) ∧ w.grownBy (w.setCell ⟨g, k, none⟩ (.int .i64 v)) (some g) := by
  subst hn
  obtain ⟨h1, h2⟩ := World.ownsRow.stored h k (.int .i64 v)
  refine ⟨?_, h2⟩
  show World.ownsRow _ _ _ _ _ _ _
  rw [List.length_set, List.map_set]
  exact h1
theorem OwnI.frozen {w : World} {B g n cap : Nat} {l : List Int} (h : OwnI w B (.slice (some ⟨g, 0, none⟩) n cap) l) (hn : n = l.length) (k : Nat) : w.frozen? ⟨g, k, none⟩ = false := by
  subst hn
  exact World.ownsRow.frozenAt h k
theorem OwnI.base' {w : World} {B C : Nat} {v : Value} {l : List Int} (h : OwnI w B v l) (hC : C ≤ B) : OwnI w C v l := by
  refine ⟨h.1, ?_⟩
  rcases h.2 with h0 | ⟨g, cap, cur, h1, h2, h3⟩
  · exact .inl h0
  · exact .inr ⟨g, cap, cur, h1, by omega, h3⟩
theorem made_zero (n : Nat) : (madeCells #[Value.int .i64 0] n).toList = (List.replicate n (0 : Int)).map (Value.int .i64) := by
  apply List.ext_getElem
  · simp [size_madeCells]
  · intro j h1 h2
    simp [madeCells, Nat.mod_one]
theorem OwnI.made {w : World} {B : Nat} {v : Value} {n : Nat} (h : w.ownsRow B 3 1 v n (madeCells #[Value.int .i64 0] n).toList) : OwnI w B v (List.replicate n 0) := by
  show World.ownsRow _ _ _ _ _ _ _
  rw [List.length_replicate, ← made_zero]
  exact h
theorem iequal_len (a b : Option Addr) (n m ca cb : Nat) (w : World) (h : n ≠ m) :
    Calls Try.prog 24 #[.slice a n ca, .slice b m cb] w fun e w' => e = .returned (.bool false) ∧ Below w.heap.size w w' := by
  have hn : ((n : Int) != (m : Int)) = true := by simp; omega
  go_enter Try.func24, Try.ntmps24
  go_wp2_with fail
  go_ret
  exact ⟨rfl, Below.refl _ _⟩
set_option maxRecDepth 20000 in
set_option maxHeartbeats 1600000 in
theorem iequal_rd (a b : Option Addr) (n ca cb : Nat) (la lb : List Int) (w : World) (ha : Row w a la) (hb : Row w b lb) (hn : n = la.length) (hm : n = lb.length) (hl : n ≤ 100000) :
    Calls Try.prog 24 #[.slice a n ca, .slice b n cb] w fun e w' => e = .returned (.bool (decide (la = lb))) ∧ Below w.heap.size w w' := by
  have hne : ((n : Int) != (n : Int)) = false := by simp
  have HA := hid ha
  have HB := hid hb
  have HN := hid hn
  have HM := hid hm
  clear ha hb hn hm
  go_enter Try.func24, Try.ntmps24
  go_wp2_with fail
  go_loopw [13] (fun vk wr => ∃ k : Nat, k ≤ n ∧ vk = .int .i64 k ∧ Hid (la.take k = lb.take k) ∧ Below w.heap.size w wr) (fun vk _ => n - (intOf vk).toNat)
  case atStart => exact ⟨0, by omega, rfl, (by rfl : la.take 0 = lb.take 0), Below.refl _ _⟩
  case round =>
    obtain ⟨k, hk, rfl, HK, hbel⟩ := hrel
    have HBL := hid hbel
    by_cases hlt : k < n
    · obtain ⟨p, off, hpa, _, a0⟩ := Row.at (Row.below HA.out hbel (Nat.le_refl _)) k (by have := HN.out; omega)
      obtain ⟨q, off2, hqb, _, b0⟩ := Row.at (Row.below HB.out hbel (Nat.le_refl _)) k (by have := HM.out; omega)
      subst hpa
      subst hqb
      have hta := in_snoc la k (by have := HN.out; omega)
      have htb := in_snoc lb k (by have := HM.out; omega)
      generalize la.getD k 0 = x at a0 hta
      generalize lb.getD k 0 = y at b0 htb
      have HTA := hid hta
      have HTB := hid htb
      have i1 : (k : Int) < (n : Int) := by omega
      clear hta htb hbel
      by_cases he : x = y
      · have hd : (x != y) = false := by simp [he]
        have HE := hid he
        clear he
        go_wp2_with fail
        go_quiet (fail)
        go_wp2_with fail
        go_roundw
        case rel => exact ⟨k + 1, by omega, by go_num, (by rw [HTA.out, HTB.out, HK.out, HE.out] : la.take (k + 1) = lb.take (k + 1)), below_drewN HBL.out _⟩
        case measure => simp [intOf]; omega
      · have hd : (x != y) = true := by simp [he]
        have HE := hid (fun h : x = y => he h)
        clear he
        go_wp2_with fail
        go_quiet (fail)
        go_wp2_with fail
        go_ret
        refine ⟨?_, below_drewN HBL.out _⟩
        have : la ≠ lb := fun e => by
          have h1 := HTA.out
          rw [e, HTB.out] at h1
          simp at h1
          exact HE.out h1.symm
        rw [decide_eq_false this]; rfl
    · have HE : Hid (la = lb) := by
        have h := HK.out
        rw [List.take_of_length_le (by have := HN.out; omega), List.take_of_length_le (by have := HM.out; omega)] at h
        exact h
      go_wp2_with fail
      go_ret
      exact ⟨by rw [decide_eq_true HE.out]; rfl, HBL.out⟩
theorem iequal_any (a b : Option Addr) (ca cb : Nat) (la lb : List Int) (w : World) (ha : Row w a la) (hb : Row w b lb) (hl : la.length ≤ 100000) :
    Calls Try.prog 24 #[.slice a la.length ca, .slice b lb.length cb] w fun e w' => e = .returned (.bool (decide (la = lb))) ∧ Below w.heap.size w w' := by
  by_cases h : la.length = lb.length
  · rw [← h]
    exact iequal_rd a b _ ca cb la lb w ha hb rfl h hl
  · rw [decide_eq_false (fun e => h (by rw [e]))]
    exact iequal_len a b _ _ ca cb w h
theorem mixd : Try.prog.follows .mixedOrders = true := by kernel_rfl
abbrev vS (g n cap : Nat) : Value := .slice (some ⟨g, 0, none⟩) n cap
theorem grown_refl (w : World) (r : Option Nat) : w.grownBy w r := ⟨rfl, rfl, rfl, Nat.le_refl _, fun _ _ _ => rfl⟩
theorem grown_grow (w : World) (n : Nat) (os : Array Obj) (r : Option Nat) : w.grownBy (grow (w.drewN n) os) r :=
  ⟨rfl, rfl, rfl, by rw [size_grow]; exact Nat.le_add_right _ _, fun k hk _ => by
    rw [heap_grow_old _ _ (by exact hk)]; rfl⟩
theorem grown_drew {w w' : World} {r : Option Nat} (h : w.drew.grownBy w' r) : w.grownBy w' r := ⟨h.os, h.tape, h.output, h.size, h.block⟩
theorem owni_grow {w : World} {B g n cap : Nat} {l : List Int} (h : OwnI w B (vS g n cap) l) (m : Nat) (os : Array Obj) : OwnI (grow (w.drewN m) os) B (vS g n cap) l :=
  World.ownsRow.kept h (grown_grow w m os none) (.inr (by simp [Value.ownBlock]))
theorem owni_drew {w : World} {B : Nat} {v : Value} {l : List Int} (h : OwnI w B v l) : OwnI w.drew B v l := World.ownsRow.drew h
/-- two boxes of a call's own -/
structure B2 (w W : World) (x y : Array Value) (tx ty : Nat) : Prop where
  b : Below (w.heap.size + 2) ((w.alloc (.cells x tx)).alloc (.cells y ty)) W
theorem B2.start (w : World) (x y : Array Value) (tx ty : Nat) : B2 w ((w.alloc (.cells x tx)).alloc (.cells y ty)) x y tx ty := ⟨Below.refl _ _⟩
theorem B2.size {w W : World} {x y : Array Value} {tx ty : Nat} (h : B2 w W x y tx ty) : w.heap.size + 2 ≤ W.heap.size := by
  have := h.b.size
  rw [World.size_alloc, World.size_alloc] at this
  exact this
theorem B2.step {w W V : World} {x y : Array Value} {tx ty : Nat} (h : B2 w W x y tx ty) (k : Below W.heap.size W V) : B2 w V x y tx ty := ⟨h.b.trans (k.mono h.size)⟩
theorem B2.row {w W V : World} {x y : Array Value} {tx ty : Nat} {r : Option Nat} (h : B2 w W x y tx ty) (k : W.grownBy V r) (hr : ∀ g, r = some g → w.heap.size + 2 ≤ g) : B2 w V x y tx ty := ⟨h.b.grown k h.size hr⟩
theorem B2.bel {w W : World} {x y : Array Value} {tx ty : Nat} (h : B2 w W x y tx ty) : Below w.heap.size w W :=
  (((Below.refl _ w).alloc (Nat.le_refl _) _).alloc (by rw [World.size_alloc]; omega) _).trans (h.b.mono (by omega))
theorem B2.c0 {w W : World} {x y : Array Value} {tx ty : Nat} (h : B2 w W x y tx ty) (i : Nat) : W.cell? ⟨w.heap.size, i, none⟩ = x[i]? := by
  rw [h.b.cell (by show w.heap.size < _; omega)]
  exact box_cell (box_alloc (box_new w x tx) _) i
theorem B2.c1 {w W : World} {x y : Array Value} {tx ty : Nat} (h : B2 w W x y tx ty) (i : Nat) : W.cell? ⟨w.heap.size + 1, i, none⟩ = y[i]? := by
  rw [h.b.cell (by show w.heap.size + 1 < _; omega)]
  have := box_new (w.alloc (.cells x tx)) y ty
  rw [World.size_alloc] at this
  exact box_cell this i
/-- a box of a call's own -/
structure B1 (w W : World) (x : Array Value) (tx : Nat) : Prop where
  b : Below (w.heap.size + 1) (w.alloc (.cells x tx)) W
theorem B1.start (w : World) (x : Array Value) (tx : Nat) : B1 w (w.alloc (.cells x tx)) x tx := ⟨Below.refl _ _⟩
theorem B1.size {w W : World} {x : Array Value} {tx : Nat} (h : B1 w W x tx) : w.heap.size + 1 ≤ W.heap.size := by
  have := h.b.size
  rw [World.size_alloc] at this
  exact this
theorem B1.step {w W V : World} {x : Array Value} {tx : Nat} (h : B1 w W x tx) (k : Below W.heap.size W V) : B1 w V x tx := ⟨h.b.trans (k.mono h.size)⟩
theorem B1.bel {w W : World} {x : Array Value} {tx : Nat} (h : B1 w W x tx) : Below w.heap.size w W :=
  ((Below.refl _ w).alloc (Nat.le_refl _) _).trans (h.b.mono (by omega))
theorem B1.c0 {w W : World} {x : Array Value} {tx : Nat} (h : B1 w W x tx) (i : Nat) : W.cell? ⟨w.heap.size, i, none⟩ = x[i]? := by
  rw [h.b.cell (by show w.heap.size < _; omega)]
  exact box_cell (box_new w x tx) i
theorem B1.row {w W V : World} {x : Array Value} {tx : Nat} {r : Option Nat} (h : B1 w W x tx) (k : W.grownBy V r) (hr : ∀ g, r = some g → w.heap.size + 1 ≤ g) : B1 w V x tx := ⟨h.b.grown k h.size hr⟩
theorem below_grow {B : Nat} {a w : World} (h : Below B a w) (hB : B ≤ w.heap.size) (n : Nat) (os : Array Obj) : Below B a (grow (w.drewN n) os) :=
  h.grown (grown_grow w n os none) hB (fun g hg => by simp at hg)
theorem take_getD (l : List Int) (k : Nat) (h : k < l.length) : l.take (k + 1) = l.take k ++ [l.getD k 0] := in_snoc l k h
def flI (l : List Int) : List Value := l.map (Value.int .i64)
theorem flI_len (l : List Int) : (flI l).length = l.length := by simp [flI]
theorem flI_one (l : List Int) : ∀ u ∈ flI l, u.oneCell' = true := by
  intro u hu
  simp only [flI, List.mem_map] at hu
  obtain ⟨x, _, rfl⟩ := hu
  rfl
theorem flI_append (l r : List Int) : flI (l ++ r) = flI l ++ flI r := by simp [flI]
/-- 'append' in a region that draws its order: any number of cells -/
theorem step_append_own {P : Program} {ops : Array Oper} {o : Oper} {a : Act} {w : World} {K : Act → World → Prop} {Q : Exit → Act → World → Prop} {E : Prop} (hgd : o.guard = none) (s x : Operand) (t : TypeId)
    (ho : o.op = .call { callee := .builtin .append, args := #[s, x], argTypes := #[t, t] })
    (base : Nat) (e : TypeId) (i : TypeInfo) (z : Value) (size bytes : Nat) (ht : P.underlying t = some (.slice e)) (hi : P.info? e = some i) (hz : i.zero = some z)
    (hsize : i.size = size) (hby : i.bytes = bytes) (hzs : z.cells.size = size) (hsz : 0 < size)
    (v : Value) (n : Nat) (xs : List Value) (hs : a.eval s = v) (hown : w.ownsRow base e size v n xs)
    (ad : Addr) (m c : Nat) (news : List Value) (hx : a.eval x = .slice (some ad) m c) (hl : news.length = m * size) (hnews : ∀ j u, news[j]? = some u → w.cell? (ad.add j) = some u) (h1 : ∀ u ∈ news, u.oneCell' = true)
    (h63 : n + m ≤ maxLen) (hbytes : (n + m) * bytes ≤ 140737488355328) (hbase : base ≤ w.heap.size)
    (h : ∀ v' w', w'.ownsRow base e size v' (n + m) (xs ++ news) → w.grownBy w' v.ownBlock → (v' = .slice none 0 0 ↔ v = .slice none 0 0 ∧ m = 0) → K (a.put o.dst v') w') :
    if Region.wanted o (yielded ops a.tmps) = true then Oper.wp P o a w K Q else E := by
  have hw : Region.wanted o (yielded ops a.tmps) = true := by simp [Region.wanted, hgd]
  rw [if_pos hw]
  exact wp_append_own w s x t ho base e i z size bytes ht hi hz hsize hby hzs hsz v n xs hs hown ad m c news hx hl hnews h1 h63 hbytes hbase h
/-- ints that lie somewhere, as cells -/
theorem row_news {w : World} {pb po : Nat} {l : List Int} (h : Row w (some ⟨pb, po, none⟩) l) : ∀ j u, (flI l)[j]? = some u → w.cell? ((⟨pb, po, none⟩ : Addr).add j) = some u := by
  intro j u hj
  have hlt : j < l.length := by have := (List.getElem?_eq_some_iff.1 hj).1; rwa [flI_len] at this
  obtain ⟨b, off, e, _, hc⟩ := Row.at h j hlt
  simp only [Option.some.injEq, Addr.mk.injEq, and_true] at e
  obtain ⟨rfl, rfl⟩ := e
  have ha : (⟨pb, po, none⟩ : Addr).add j = ⟨pb, po + j, none⟩ := by by_cases h0 : j = 0 <;> simp [Addr.add, h0]
  rw [ha, hc]
  simp only [flI, List.getElem?_map] at hj
  simpa [List.getD, hlt] using hj
theorem eqNilI (w : World) (a : Option Addr) (n c n' c' : Nat) : (binOp .eql 23 (.slice a n c) (.slice none n' c')).run Try.prog w = .ok (.bool a.isNone) w := Lib.run_eql_slice_nil w _ _ a n c n' c' Try.underlying23
set_option maxRecDepth 20000 in
theorem cloneI_any (b off cap : Nat) (l : List Int) (w : World) (h : Row w (some ⟨b, off, none⟩) l) (hl : l.length ≤ 1000) :
    Calls Try.prog 20 #[.slice (some ⟨b, off, none⟩) l.length cap] w fun e w' => (∃ v, e = .returned v ∧ OwnI w' w.heap.size v l) ∧ Below w.heap.size w w' := by
  obtain ⟨i0, hi, hz0, hz1, hz2⟩ := info_parts infoInt
  have Hi := hid hi
  have Hz0 := hid hz0
  have Hz1 := hid hz1
  have Hz2 := hid hz2
  clear hi hz0 hz1 hz2
  have q := eqNilI
  have HA := hid h
  have HL := hid hl
  clear h hl
  go_enter Try.func20, Try.ntmps20
  go_wp2_with (at_builtin; refine wpList_append_own _ rfl _ _ 23 rfl w.heap.size 3 i0 (.int .i64 0) 1 8 Try.underlying23 Hi.out Hz0.out Hz1.out Hz2.out rfl (by decide) _ _ _ rfl (World.ownsRow_made w #[] 0 (Nat.le_refl _) (Nat.zero_le _) rfl) ⟨b, off, none⟩ l.length cap (flI l) rfl ?qc1 ?qc2 ?qc3 ?qc4 ?qc5 ?qc6 ?_)
  case qc1 => rw [flI_len, Nat.mul_one]
  case qc2 => exact row_news (Row.below HA.out (Below.alloc (Below.refl _ _) (Nat.le_refl _) _) (Nat.le_refl _))
  case qc3 => exact flI_one l
  case qc4 => have := HL.out; unfold maxLen; omega
  case qc5 => have := HL.out; omega
  case qc6 => simp
  intro v' w1 hown hgrow hnil
  have HO : Hid (OwnI w1 w.heap.size v' l) := by
    show w1.ownsRow _ _ _ _ _ _
    simpa [flI] using hown
  have HB := hid (Below.grown (Below.alloc (Below.refl _ w) (Nat.le_refl _) _) hgrow (by simp) (by intro k hk; simp [Value.ownBlock] at hk; omega))
  obtain ⟨a, n, c, rfl⟩ := OwnI.slice (show OwnI _ _ _ _ from HO.out)
  clear hown hgrow hnil
  go_wp2
  go_ret
  exact ⟨⟨_, rfl, HO.out⟩, HB.out⟩
theorem owni_snoc {w : World} {B n : Nat} {v : Value} {Z Y : List Int} (h : w.ownsRow B 3 1 v n (flI Z ++ flI Y)) (hn : n = Z.length + Y.length) : OwnI w B v (Z ++ Y) := by
  subst hn
  unfold OwnI
  rw [List.length_append, List.map_append]
  exact h
theorem wpList_appendI {ops : Array Oper} {rest : List Oper} {o : Oper} {a : Act} {Q : Exit → Act → World → Prop} {w : World} (hgd : o.guard = none) (s x : Operand)
    (ho : o.op = .call { callee := .builtin .append, args := #[s, x], argTypes := #[23, 23] })
    (B : Nat) (v : Value) (l m : List Int) (sa : Addr) (len cap : Nat) (hs : a.eval s = v) (hown : OwnI w B v l) (hx : a.eval x = .slice (some sa) len cap) (hlen : len = m.length) (hm : ∀ j u, (flI m)[j]? = some u → w.cell? (sa.add j) = some u)
    (hl : l.length + m.length ≤ 100000) (hB : B ≤ w.heap.size)
    (h : ∀ v' w', OwnI w' B v' (l ++ m) → w.grownBy w' v.ownBlock → wpList Try.prog ops Q rest (a.put o.dst v') w') : wpList Try.prog ops Q (o :: rest) a w := by
  obtain ⟨i0, hi, hz0, hz1, hz2⟩ := info_parts infoInt
  subst hlen
  refine wpList_append_own _ hgd s x 23 ho B 3 i0 (.int .i64 0) 1 8 Try.underlying23 hi hz0 hz1 hz2 rfl (by decide) v l.length (flI l) hs hown sa m.length cap (flI m) hx (by rw [flI_len, Nat.mul_one]) hm (flI_one m) (by unfold maxLen; omega) (by omega) hB ?_
  intro v' w' h1 h2 _
  exact h v' w' (owni_snoc h1 rfl) h2
theorem take_mid (l : List Int) {k : Nat} (h : k < l.length) : l = l.take k ++ l.getD k 0 :: l.drop (k + 1) := by
  conv => lhs; rw [← List.take_append_drop k l, List.drop_eq_getElem_cons h]
  simp [List.getD, h]
theorem row_take {w : World} {p off : Nat} {l : List Int} (h : Row w (some ⟨p, off, none⟩) l) (k : Nat) : Row w (some ⟨p, off, none⟩) (l.take k) := by
  rcases h with rfl | ⟨b, o, e, h⟩
  · exact .inl (by simp)
  · refine .inr ⟨b, o, e, fun i hi => ?_⟩
    have h1 : i < k ∧ i < l.length := by simp [List.length_take] at hi; omega
    rw [h i h1.2]
    simp [List.getD, h1.1]
theorem row_drop {w : World} {p off : Nat} {l : List Int} (h : Row w (some ⟨p, off, none⟩) l) (j : Nat) : ∀ t u, (flI (l.drop j))[t]? = some u → w.cell? ((⟨p, off + j, none⟩ : Addr).add t) = some u := by
  intro t u hu
  have ht : t < (l.drop j).length := by have := (List.getElem?_eq_some_iff.1 hu).1; rwa [flI_len] at this
  rw [List.length_drop] at ht
  obtain ⟨b, o, e, _, hc⟩ := Row.at h (j + t) (by omega)
  simp only [Option.some.injEq, Addr.mk.injEq, and_true] at e
  obtain ⟨rfl, rfl⟩ := e
  have ha : (⟨p, off + j, none⟩ : Addr).add t = ⟨p, off + (j + t), none⟩ := by
    by_cases h0 : t = 0
    · simp [Addr.add, h0]
    · simp [Addr.add, h0]; omega
  rw [ha, hc]
  simp only [flI, List.getElem?_map, List.getElem?_drop] at hu
  simpa [List.getD, show j + t < l.length by omega] using hu
theorem owni_row {w : World} {B : Nat} {v : Value} {l : List Int} (h : OwnI w B v l) : ∃ a cap, v = .slice a l.length cap ∧ Row w a l ∧ l.length ≤ cap := by
  obtain ⟨a, cap, rfl, hr, _⟩ := OwnI.row h
  rcases h.form with ⟨e, rfl⟩ | ⟨g, c, e, _, _, h1, _⟩
  · exact ⟨a, cap, rfl, hr, Nat.zero_le _⟩
  · simp only [Value.slice.injEq] at e
    obtain ⟨rfl, _, rfl⟩ := e
    exact ⟨_, _, rfl, hr, h1⟩
end IntsC
end Go.Proofs.Ytceflfdpbgnfjaa
