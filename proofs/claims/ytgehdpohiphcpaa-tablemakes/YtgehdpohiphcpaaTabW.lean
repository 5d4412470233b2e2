/- Lists of windows that a call makes; contracts of package table: add, cut. -/
import Derived.Test.YtgehdpohiphcpaaSpanW
import Derived.Test.YtgehdpohiphcpaaTabC
import Derived.Lib.OwnBridge
import Derived.BigRegion
import Derived.Deep.RegionWith
set_option linter.unusedVariables false
namespace Go.Proofs.Ytgehdpohiphcpaa
open Go.RowKit
open SpanM SpanC TabM
namespace TabC
theorem infoWin : (Try.prog.info? 50).map (fun i => (i.zero, i.size, i.bytes)) = some (some (.agg #[.int .i64 0, .int .i64 0, .int .i64 0]), 3, 24) := by kernel_rfl
/-- windows as cells -/
def flat3 : List Win → List Value
  | [] => []
  | x :: r => .int .i64 x.1 :: .int .i64 x.2.1 :: .int .i64 x.2.2 :: flat3 r
theorem flat3_length (l : List Win) : (flat3 l).length = l.length * 3 := by
  induction l with
  | nil => rfl
  | cons x r ih => simp only [flat3, List.length_cons, ih]; omega
theorem flat3_append (l r : List Win) : flat3 (l ++ r) = flat3 l ++ flat3 r := by
  induction l with
  | nil => rfl
  | cons x s ih => simp [flat3, ih]
theorem flat3_at (l : List Win) (i : Nat) (h : i < l.length) : (flat3 l)[i * 3]? = some (.int .i64 (l.getD i z3).1) ∧ (flat3 l)[i * 3 + 1]? = some (.int .i64 (l.getD i z3).2.1) ∧ (flat3 l)[i * 3 + 2]? = some (.int .i64 (l.getD i z3).2.2) := by
  induction l generalizing i with
  | nil => simp at h
  | cons x r ih =>
    cases i with
    | zero => simp [flat3]
    | succ i =>
      have := ih i (by simpa using h)
      rw [show (i + 1) * 3 = i * 3 + 1 + 1 + 1 by omega]
      simpa [flat3, List.getD] using this
/-- a list of windows that a call has made, its memory from block B on -/
def OwnW (w : World) (B : Nat) (v : Value) (l : List Win) : Prop := w.ownsRow B 50 3 v l.length (flat3 l)
theorem OwnW.nil (w : World) (B : Nat) : OwnW w B (.slice none 0 0) [] := World.ownsRow_nil w B _ _
theorem OwnW.form {w : World} {B : Nat} {v : Value} {l : List Win} (h : OwnW w B v l) : (v = .slice none 0 0 ∧ l = []) ∨ ∃ g cap, v = .slice (some ⟨g, 0, none⟩) l.length cap ∧ B ≤ g ∧ g < w.heap.size ∧ l.length ≤ cap ∧ cap ≤ maxLen := by
  rcases h.2 with ⟨rfl, h0⟩ | ⟨g, cap, cur, rfl, hb, hg, h1, h2, _⟩
  · exact .inl ⟨rfl, List.length_eq_zero_iff.1 h0⟩
  · exact .inr ⟨g, cap, rfl, hb, (Array.getElem?_eq_some_iff.1 hg).1, h1, h2⟩
theorem OwnW.cells {w : World} {B : Nat} {v : Value} {l : List Win} (h : OwnW w B v l) : ∃ a cap, v = .slice a l.length cap ∧ l.length ≤ cap ∧ cap ≤ maxLen ∧ (l = [] ∨ ∃ b off, a = some ⟨b, off, none⟩ ∧ B ≤ b ∧ ∀ i, i < l.length → w.cell? ⟨b, off + i * 3, none⟩ = some (.int .i64 (l.getD i z3).1) ∧ w.cell? ⟨b, off + i * 3 + 1, none⟩ = some (.int .i64 (l.getD i z3).2.1) ∧ w.cell? ⟨b, off + i * 3 + 2, none⟩ = some (.int .i64 (l.getD i z3).2.2)) := by
  rcases h.form with ⟨rfl, rfl⟩ | ⟨g, cap, rfl, hb, hg, h1, h2⟩
  · exact ⟨none, 0, rfl, by simp, by unfold maxLen; omega, .inl rfl⟩
  · refine ⟨_, cap, rfl, h1, h2, .inr ⟨g, 0, rfl, hb, fun i hi => ?_⟩⟩
    obtain ⟨f1, f2, f3⟩ := flat3_at l i hi
    have c1 := World.ownsRow.cellAt h (i * 3) (by omega)
    have c2 := World.ownsRow.cellAt h (i * 3 + 1) (by omega)
    have c3 := World.ownsRow.cellAt h (i * 3 + 2) (by omega)
    rw [Nat.zero_add]
    exact ⟨by rw [c1, f1], by rw [c2, f2], by rw [c3, f3]⟩
theorem OwnW.wns {w : World} {B : Nat} {v : Value} {l : List Win} (h : OwnW w B v l) (hx : ∀ x ∈ l, x.1 ≤ 9223372036854775807) : ∃ a cap, v = .slice a l.length cap ∧ Wns w a l ∧ l.length ≤ cap ∧ cap ≤ maxLen := by
  obtain ⟨a, cap, h1, h2, h3, h4⟩ := h.cells
  refine ⟨a, cap, h1, ⟨hx, ?_⟩, h2, h3⟩
  rcases h4 with h4 | ⟨b, off, h4, _, h5⟩
  · exact .inl h4
  · exact .inr ⟨b, off, h4, h5⟩
theorem OwnW.kept {w w' : World} {B : Nat} {v : Value} {l : List Win} (h : OwnW w B v l) (hg : w.grownBy w' none) : OwnW w' B v l :=
  World.ownsRow.kept h hg (by cases v.ownBlock <;> simp)
theorem OwnW.below {w w' : World} {B C : Nat} {v : Value} {l : List Win} (h : OwnW w B v l) (hb : Below C w w') (hC : w.heap.size ≤ C) : OwnW w' B v l := h.kept (grown_of_below hb hC none)
theorem OwnW.base {w : World} {B C : Nat} {v : Value} {l : List Win} (h : OwnW w B v l) (hC : C ≤ B) : OwnW w C v l := by
  refine ⟨h.1, ?_⟩
  rcases h.2 with h0 | ⟨g, cap, cur, h1, h2, h3⟩
  · exact .inl h0
  · exact .inr ⟨g, cap, cur, h1, by omega, h3⟩
theorem OwnW.slice {w : World} {B : Nat} {v : Value} {l : List Win} (h : OwnW w B v l) : ∃ a n c, v = .slice a n c := by
  rcases h.form with ⟨rfl, _⟩ | ⟨g, cap, rfl, _⟩
  · exact ⟨_, _, _, rfl⟩
  · exact ⟨_, _, _, rfl⟩
theorem flat3_set (l : List Win) (y : Win) (n : Int) : (flat3 (l ++ [y])).set (l.length * 3 + 1) (.int .i64 n) = flat3 (l ++ [(y.1, n, y.2.2)]) := by
  rw [flat3_append, flat3_append, List.set_append_right _ _ (by rw [flat3_length]; omega), flat3_length]
  rw [show l.length * 3 + 1 - l.length * 3 = 1 by omega]
  rfl
theorem OwnW.setLong {w : World} {B g cap : Nat} {l : List Win} {y : Win} (n : Int) (h : OwnW w B (.slice (some ⟨g, 0, none⟩) (l ++ [y]).length cap) (l ++ [y])) :
    OwnW (w.setCell ⟨g, l.length * 3 + 1, none⟩ (.int .i64 n)) B (.slice (some ⟨g, 0, none⟩) (l ++ [(y.1, n, y.2.2)]).length cap) (l ++ [(y.1, n, y.2.2)]) := by
  have := (World.ownsRow.stored h (l.length * 3 + 1) (.int .i64 n)).1
  rw [flat3_set] at this
  have e : (l ++ [(y.1, n, y.2.2)]).length = (l ++ [y]).length := by simp
  unfold OwnW
  rw [e]
  exact this

theorem run_append_new {P : Program} (w : World) (base : Nat) (t ty e : TypeId) (i : TypeInfo) (z : Value) (size bytes : Nat) (ht : P.underlying t = some (.slice e)) (hi : P.info? e = some i) (hz : i.zero = some z)
    (hsize : i.size = size) (hby : i.bytes = bytes) (hzs : z.cells.size = size) (hsz : 0 < size)
    (v : Value) (n : Nat) (xs : List Value) (hown : w.ownsRow base e size v n xs)
    (a : Addr) (m c : Nat) (news : List Value) (hl : news.length = m * size) (hnews : ∀ j u, news[j]? = some u → w.cell? (a.add j) = some u) (h1 : ∀ u ∈ news, u.oneCell' = true)
    (h63 : n + m ≤ maxLen) (hbytes : (n + m) * bytes ≤ 140737488355328) (hbase : base ≤ w.heap.size) (hm : 0 < m) :
    ∃ v' w', (Builtin.append_ #[t, t] ty #[v, .slice (some a) m c]).run P w = .ok v' w' ∧ w'.ownsRow base e size v' (n + m) (xs ++ news) ∧ w.grownBy w' v.ownBlock ∧
      (v' = .slice none 0 0 ↔ v = .slice none 0 0 ∧ m = 0) ∧ (v'.ownBlock = v.ownBlock ∨ v'.ownBlock = some w.heap.size) := by
  obtain ⟨v', w', hr, h2, h3, h4⟩ := run_append_own (P := P) w base t ty e i z size bytes ht hi hz hsize hby hzs hsz v n xs hown a m c news hl hnews h1 h63 hbytes hbase
  refine ⟨v', w', hr, h2, h3, h4, ?_⟩
  subst hsize
  subst hby
  have hsmall : n + m ≤ 9223372036854775807 := by simp only [maxLen] at h63; omega
  rcases hown.2 with ⟨rfl, rfl⟩ | ⟨g, cap, cur, rfl, hbg, hg, hnc, hcm, hcs, htake⟩
  · have hr2 := run_append_nil (P := P) w t ty e i z ht hi hz a m c news hl hnews (by omega) (by omega) (by have hb := hbytes; simp only [Nat.zero_add] at hb; omega)
    rw [hr2] at hr
    simp only [Result.ok.injEq] at hr
    obtain ⟨rfl, rfl⟩ := hr
    exact .inr rfl
  · by_cases hroom : n + m ≤ cap
    · have hfit : n * i.size + news.length ≤ cur.size := by rw [hl, hcs, ← Nat.add_mul]; exact Nat.mul_le_mul_right _ hroom
      have hr2 := run_append_room (P := P) w t ty e i ht hi g n cap cur hg a m c news hl hnews h1 hroom hfit
      rw [hr2] at hr
      simp only [Result.ok.injEq] at hr
      obtain ⟨rfl, rfl⟩ := hr
      exact .inl rfl
    · have holds : ∀ j u, xs[j]? = some u → w.cell? ((⟨g, 0, none⟩ : Addr).add j) = some u := hown.cells (g := g) rfl
      have hr2 := run_append_grow (P := P) w t ty e i z ht hi hz ⟨g, 0, none⟩ n cap xs hown.1 holds a m c news hl hnews (by omega) (by omega) (growslice_fits (by omega) hbytes)
      rw [hr2] at hr
      simp only [Result.ok.injEq] at hr
      obtain ⟨rfl, rfl⟩ := hr
      exact .inr rfl
theorem wpList_append_new {P : Program} (w : World) {ops : Array Oper} {rest : List Oper} {o : Oper} {a : Act} {Q : Exit → Act → World → Prop} (hgd : o.guard = none) (s x : Operand) (t : TypeId)
    (ho : o.op = .call { callee := .builtin .append, args := #[s, x], argTypes := #[t, t] })
    (base : Nat) (e : TypeId) (i : TypeInfo) (z : Value) (size bytes : Nat) (ht : P.underlying t = some (.slice e)) (hi : P.info? e = some i) (hz : i.zero = some z)
    (hsize : i.size = size) (hby : i.bytes = bytes) (hzs : z.cells.size = size) (hsz : 0 < size)
    (v : Value) (n : Nat) (xs : List Value) (hs : a.eval s = v) (hown : w.ownsRow base e size v n xs)
    (ad : Addr) (m c : Nat) (news : List Value) (hx : a.eval x = .slice (some ad) m c) (hl : news.length = m * size) (hnews : ∀ j u, news[j]? = some u → w.cell? (ad.add j) = some u) (h1 : ∀ u ∈ news, u.oneCell' = true)
    (h63 : n + m ≤ maxLen) (hbytes : (n + m) * bytes ≤ 140737488355328) (hbase : base ≤ w.heap.size) (hm : 0 < m)
    (h : ∀ v' w', w'.ownsRow base e size v' (n + m) (xs ++ news) → w.grownBy w' v.ownBlock → (v' = .slice none 0 0 ↔ v = .slice none 0 0 ∧ m = 0) → (v'.ownBlock = v.ownBlock ∨ v'.ownBlock = some w.heap.size) → wpList P ops Q rest (a.put o.dst v') w') : wpList P ops Q (o :: rest) a w :=
  wpList_plain hgd fun _ hK => by
    obtain ⟨v', w', hr, h2, h3, h4, h5⟩ := run_append_new (P := P) w base t o.type e i z size bytes ht hi hz hsize hby hzs hsz v n xs hown ad m c news hl hnews h1 h63 hbytes hbase hm
    unfold Oper.wp execOp
    simp only [ho, resolve, invoke, builtin, Sem.run_bind, Sem.run_pure, Result.andThen_ok, List.map_toArray, List.map_cons, List.map_nil, hs, hx, hr]
    exact hK _ _ (h v' w' h2 h3 h4 h5)
/-- a list that a call made longer, lies where it was or in a new block -/
def Stays (w : World) (v v' : Value) : Prop := ∀ R, R < w.heap.size → some R ≠ v.ownBlock → some R ≠ v'.ownBlock
theorem Stays.refl (w : World) (v : Value) : Stays w v v := fun _ _ h => h
theorem Stays.of {w : World} {m : Nat} {v v' : Value} (h : v'.ownBlock = v.ownBlock ∨ v'.ownBlock = some m) (hs : w.heap.size ≤ m) : Stays w v v' := by
  intro R h1 h2
  rcases h with h | h
  · rw [h]; exact h2
  · rw [h]; intro e; simp at e; omega
theorem grown_drewN (w : World) (n : Nat) (row : Option Nat) : w.grownBy (w.drewN n) row := ⟨rfl, rfl, rfl, Nat.le_refl _, fun _ _ _ => rfl⟩
theorem OwnW.fresh {w : World} {B k : Nat} {v : Value} {l : List Win} (h : OwnW w B v l) (hk : w.heap.size ≤ k) : some k ≠ v.ownBlock := fun e => by
  have := (World.ownsRow.lt h k e.symm).2; omega
/-- memory from B on may have turned -/
theorem OwnW.to_below {w w' : World} {B C : Nat} {v : Value} {l : List Win} (ho : OwnW w B v l) (hg : w.grownBy w' v.ownBlock) (hB : C ≤ B) (hs : C ≤ w.heap.size) : Below C w w' :=
  (Below.refl C w).grown hg hs (fun k hk => by have := (World.ownsRow.lt ho k hk).1; omega)
theorem add_skip (v : Value) (f n o : Int) (w : World) (h : n ≤ 0) (hv : ∃ a m c, v = .slice a m c) :
    Calls Try.prog 52 #[v, .agg #[.int .i64 f, .int .i64 n, .int .i64 o]] w fun e w' => e = .returned v ∧ w.grownBy w' none := by
  obtain ⟨a, m, c, rfl⟩ := hv
  go_enter Try.func52, Try.ntmps52
  go_wp2_with fail
  go_ret
  exact ⟨rfl, World.grownBy_alloc _ _ _⟩
set_option maxRecDepth 20000 in
set_option maxHeartbeats 800000 in
theorem add_nil (v : Value) (f n o : Int) (B : Nat) (w : World) (h : 0 < n) (ho : OwnW w B v []) (hB : B ≤ w.heap.size) :
    Calls Try.prog 52 #[v, .agg #[.int .i64 f, .int .i64 n, .int .i64 o]] w fun e w' => ∃ v', e = .returned v' ∧ OwnW w' B v' [(f, n, o)] ∧ w.grownBy w' v.ownBlock ∧ Stays w v v' := by
  obtain ⟨i0, hi, hz0, hz1, hz2⟩ := info_parts infoWin
  have Hi := hid hi
  have Hz0 := hid hz0
  have Hz1 := hid hz1
  have Hz2 := hid hz2
  clear hi hz0 hz1 hz2
  have HO := hid ho
  have hv : ∃ a c, v = .slice a 0 c := by
    obtain ⟨a, c, e, _⟩ := ho.cells
    exact ⟨a, c, e⟩
  clear ho
  obtain ⟨a, c, rfl⟩ := hv
  have hn : ¬ n ≤ 0 := by omega
  go_enter Try.func52, Try.ntmps52
  go_wp2_with fail
  go_quiet (fail)
  go_wp2_with (at_builtin; refine wpList_append_new _ rfl _ _ 22 rfl B 50 i0 (.agg #[.int .i64 0, .int .i64 0, .int .i64 0]) 3 24 Try.underlying22 Hi.out Hz0.out Hz1.out Hz2.out rfl (by decide) _ ([] : List Win).length (flat3 ([] : List Win)) rfl ?qc0 ⟨w.heap.size + 1, 0, none⟩ 1 1 [.int .i64 f, .int .i64 n, .int .i64 o] ?qcx ?qc1 ?qc2 ?qc3 ?qc4 ?qc5 ?qc6 (by decide) ?_)
  case qc0 => first | exact World.ownsRow.alloc (World.ownsRow.alloc HO.out _) _ | exact World.ownsRow.alloc (World.ownsRow.drew (World.ownsRow.alloc HO.out _)) _ | exact World.ownsRow.alloc (ownsRow_drewN (World.ownsRow.alloc HO.out _) _) _
  case qcx => rfl
  case qc1 => simp
  case qc2 =>
    intro j u hj
    match j, hj with
    | 0, hj => simp at hj; subst hj; exact World.cell?_alloc_at _ _ _ _ (by simp)
    | 1, hj => simp at hj; subst hj; exact World.cell?_alloc_at _ _ _ _ (by simp)
    | 2, hj => simp at hj; subst hj; exact World.cell?_alloc_at _ _ _ _ (by simp)
    | j + 3, hj => simp at hj
  case qc3 => intro u hu; simp at hu; rcases hu with rfl | rfl | rfl <;> rfl
  case qc4 => unfold maxLen; simp
  case qc5 => simp
  case qc6 => simp; omega
  intro v' w1 hown hgrow hnil hst
  have HB := hid (((World.grownBy_alloc w _ _).trans ((grown_drewN _ _ _).trans (World.grownBy_alloc _ _ _))).trans hgrow)
  clear hgrow
  go_wp2_with fail
  go_ret
  refine ⟨v', rfl, ?_, HB.out, Stays.of hst (by omega)⟩
  show w1.ownsRow _ _ _ _ _ _
  simpa [flat3] using hown
set_option maxRecDepth 20000 in
set_option maxHeartbeats 1600000 in
theorem add_snoc (v : Value) (l : List Win) (y1 y2 y3 f n o : Int) (B : Nat) (w : World) (h : 0 < n) (ho : OwnW w B v (l ++ [(y1, y2, y3)])) (hB : B ≤ w.heap.size) (hl : l.length ≤ 1000) (hy : 0 ≤ y2) (hy2 : y2 ≤ 2000000000000) (hn2 : n ≤ 2000000000000) :
    Calls Try.prog 52 #[v, .agg #[.int .i64 f, .int .i64 n, .int .i64 o]] w fun e w' => ∃ v', e = .returned v' ∧ OwnW w' B v' (addW (l ++ [(y1, y2, y3)]) (f, n, o)) ∧ w.grownBy w' v.ownBlock ∧ Stays w v v' := by
  obtain ⟨i0, hi, hz0, hz1, hz2⟩ := info_parts infoWin
  have Hi := hid hi
  have Hz0 := hid hz0
  have Hz1 := hid hz1
  have Hz2 := hid hz2
  clear hi hz0 hz1 hz2
  have HO := hid ho
  have hn : ¬ n ≤ 0 := by omega
  rcases ho.form with ⟨_, e1⟩ | ⟨g, cap, rfl, hg, hg2, hc1, hc2⟩
  · simp at e1
  · have hln : (l ++ [(y1, y2, y3)]).length = l.length + 1 := by simp
    have e1 := World.ownsRow.cellAt ho (l.length * 3 + 1) (by rw [hln]; omega)
    have e2 := World.ownsRow.cellAt ho (l.length * 3 + 2) (by rw [hln]; omega)
    obtain ⟨_, f1, f2⟩ := flat3_at (l ++ [(y1, y2, y3)]) l.length (by rw [hln]; omega)
    have e3 : (l ++ [(y1, y2, y3)]).getD l.length z3 = (y1, y2, y3) := by simp [List.getD]
    rw [f1, e3] at e1
    rw [f2, e3] at e2
    have e4 := World.ownsRow.frozenAt ho (l.length * 3 + 1)
    clear f1 f2 e3 ho hc1 hc2
    have Hln := hid hln
    generalize hq : (l ++ [(y1, y2, y3)]).length = q at *
    have Hq := hid hq
    clear hq hln
    obtain rfl : q = l.length + 1 := Hln.out
    generalize hq2 : l.length = q at *
    have Hq2 := hid hq2
    clear hq2
    simp only at e1 e2
    have hq3 : ((q + 1 : Nat) : Int) - 1 = (q : Int) := by omega
    have hgw : g < w.heap.size := hg2
    by_cases he : y3 = o
    · subst he
      have HSL : Hid (∀ k m, OwnW ((((w.alloc (.cells #[.int .i64 f, .int .i64 n, .int .i64 y3] 50)).drewN k).setCell ⟨g, q * 3 + 1, none⟩ (.int .i64 (y2 + n))).drewN m) B (.slice (some ⟨g, 0, none⟩) (q + 1) cap) (addW (l ++ [(y1, y2, y3)]) (f, n, y3))) := by
        intro k m
        rw [addW_same (by exact h) (by rfl)]
        have h1 : OwnW w B (.slice (some ⟨g, 0, none⟩) (l ++ [(y1, y2, y3)]).length cap) (l ++ [(y1, y2, y3)]) := by rw [Hq.out]; exact HO.out
        have h2 : OwnW ((w.alloc (.cells #[.int .i64 f, .int .i64 n, .int .i64 y3] 50)).drewN k) B (.slice (some ⟨g, 0, none⟩) (l ++ [(y1, y2, y3)]).length cap) (l ++ [(y1, y2, y3)]) := World.ownsRow.alloc h1 _
        have h3 := h2.setLong (y2 + n)
        rw [Hq2.out] at h3
        have h4 : (l ++ [((y1, y2, y3).1, y2 + n, (y1, y2, y3).2.2)]).length = q + 1 := by simp [Hq2.out]
        rw [h4] at h3
        exact h3
      have HGB : Hid (∀ k m, w.grownBy ((((w.alloc (.cells #[.int .i64 f, .int .i64 n, .int .i64 y3] 50)).drewN k).setCell ⟨g, q * 3 + 1, none⟩ (.int .i64 (y2 + n))).drewN m) (some g)) := by
        intro k m
        have h1 : OwnW w B (.slice (some ⟨g, 0, none⟩) (l ++ [(y1, y2, y3)]).length cap) (l ++ [(y1, y2, y3)]) := by rw [Hq.out]; exact HO.out
        have h2 : OwnW ((w.alloc (.cells #[.int .i64 f, .int .i64 n, .int .i64 y3] 50)).drewN k) B (.slice (some ⟨g, 0, none⟩) (l ++ [(y1, y2, y3)]).length cap) (l ++ [(y1, y2, y3)]) := World.ownsRow.alloc h1 _
        have h3 := (World.ownsRow.stored h2 (q * 3 + 1) (.int .i64 (y2 + n))).2
        exact (((World.grownBy_alloc w _ _).trans (grown_drewN _ _ _)).trans h3).trans (grown_drewN _ _ _)
      go_enter Try.func52, Try.ntmps52
      go_wp2_with fail
      go_quiet (fail)
      go_wp2_with fail
      go_region
      all_goals
        go_wp2_with fail
        go_ret
        exact ⟨_, rfl, by (first | exact HSL.out _ 0 | exact HSL.out _ 1), by (first | exact HGB.out _ 0 | exact HGB.out _ 1), Stays.refl _ _⟩
    · have HO' : Hid (w.ownsRow B 50 3 (.slice (some ⟨g, 0, none⟩) (q + 1) cap) (q + 1) (flat3 (l ++ [(y1, y2, y3)]))) := by
        have h : w.ownsRow _ _ _ _ (l ++ [(y1, y2, y3)]).length _ := HO.out
        rw [Hq.out] at h
        exact h
      have hbe : (y3 == o) = false := by simp [he]
      go_enter Try.func52, Try.ntmps52
      go_wp2_with fail
      go_quiet (fail)
      go_wp2_with (at_builtin; refine wpList_append_new _ rfl _ _ 22 rfl B 50 i0 (.agg #[.int .i64 0, .int .i64 0, .int .i64 0]) 3 24 Try.underlying22 Hi.out Hz0.out Hz1.out Hz2.out rfl (by decide) _ (q + 1) (flat3 (l ++ [(y1, y2, y3)])) rfl ?qc0 ⟨w.heap.size + 1, 0, none⟩ 1 1 [.int .i64 f, .int .i64 n, .int .i64 o] ?qcx ?qc1 ?qc2 ?qc3 ?qc4 ?qc5 ?qc6 (by decide) ?_)
      case qc0 => first | exact World.ownsRow.alloc (World.ownsRow.alloc HO'.out _) _ | exact World.ownsRow.alloc (World.ownsRow.drew (World.ownsRow.alloc HO'.out _)) _ | exact World.ownsRow.alloc (ownsRow_drewN (World.ownsRow.alloc HO'.out _) _) _
      case qcx => rfl
      case qc1 => simp
      case qc2 =>
        intro j u hj
        match j, hj with
        | 0, hj => simp at hj; subst hj; exact World.cell?_alloc_at _ _ _ _ (by simp)
        | 1, hj => simp at hj; subst hj; exact World.cell?_alloc_at _ _ _ _ (by simp)
        | 2, hj => simp at hj; subst hj; exact World.cell?_alloc_at _ _ _ _ (by simp)
        | j + 3, hj => simp at hj
      case qc3 => intro u hu; simp at hu; rcases hu with rfl | rfl | rfl <;> rfl
      case qc4 => unfold maxLen; omega
      case qc5 => omega
      case qc6 => simp; omega
      intro v' w1 hown hgrow hnil hst
      have HB := hid (((World.grownBy_alloc w _ _).trans ((grown_drewN _ _ _).trans (World.grownBy_alloc _ _ _))).trans hgrow)
      have HO2 : Hid (OwnW w1 B v' (addW (l ++ [(y1, y2, y3)]) (f, n, o))) := by
        show w1.ownsRow _ _ _ _ _ _
        rw [addW_more (by exact h) (by exact he), flat3_append, List.length_append, Hq.out]
        exact hown
      clear hgrow hown
      go_wp2_with fail
      go_ret
      exact ⟨v', rfl, HO2.out, HB.out, Stays.of hst (by omega)⟩
theorem add_any (v : Value) (l : List Win) (f n o : Int) (B : Nat) (w : World) (ho : OwnW w B v l) (hB : B ≤ w.heap.size) (hl : l.length ≤ 1000) (hy : ∀ y ∈ l, 0 ≤ y.2.1 ∧ y.2.1 ≤ 2000000000000) (hn : n ≤ 2000000000000) :
    Calls Try.prog 52 #[v, .agg #[.int .i64 f, .int .i64 n, .int .i64 o]] w fun e w' => ∃ v', e = .returned v' ∧ OwnW w' B v' (addW l (f, n, o)) ∧ w.grownBy w' v.ownBlock ∧ Stays w v v' := by
  by_cases h : n ≤ 0
  · rw [addW_skip (by exact h)]
    exact (add_skip v f n o w h ho.slice).mono fun e w' ⟨he, hb⟩ => ⟨v, he, ho.kept hb, ⟨hb.os, hb.tape, hb.output, hb.size, fun k hk _ => hb.block k hk (by simp)⟩, Stays.refl _ _⟩
  · rcases TabM.nil_or_snoc l with rfl | ⟨l', ⟨y1, y2, y3⟩, rfl⟩
    · rw [addW_nil (by simp only; omega)]
      exact add_nil v f n o B w (by omega) ho hB
    · have := hy (y1, y2, y3) (by simp)
      exact add_snoc v l' y1 y2 y3 f n o B w (by omega) ho hB (by simp at hl; omega) this.1 this.2 hn
end TabC
end Go.Proofs.Ytgehdpohiphcpaa
