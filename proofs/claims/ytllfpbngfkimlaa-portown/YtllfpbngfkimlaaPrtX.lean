/- Rows of texts that a call made, with what all cells of their blocks hold: texts (PortOwn asks it). -/
import Derived.Test.YtllfpbngfkimlaaPrtD
set_option linter.unusedVariables false
namespace Go.Proofs.Ytllfpbngfkimlaa
open Go.RowKit
open Go.Shelf Go.Sort
open SpanM SpanC IntsC
namespace PortT
open PrtM PortC
def StrV (u : Value) : Prop := ∃ z, u = .string z ∧ z.size ≤ 5000
/-- every cell of a slice's block is a text -/
def Ss (w : World) (v : Value) : Prop := ∀ q, v.ownBlock = some q → ∃ cur e fr, w.heap[q]? = some (.cells cur e fr) ∧ ∀ u ∈ cur.toList, StrV u
theorem Ss.nil (w : World) (n c : Nat) : Ss w (.slice none n c) := fun q h => by simp [Value.ownBlock] at h
theorem Ss.heap {w w' : World} {v : Value} (h : Ss w v) (hs : ∀ q, v.ownBlock = some q → w'.heap[q]? = w.heap[q]?) : Ss w' v := by
  intro q hq
  obtain ⟨cur, e, fr, h1, h2⟩ := h q hq
  exact ⟨cur, e, fr, (hs q hq).trans h1, h2⟩
theorem mem_zeroCells {z : Array Value} {n : Nat} {u : Value} (h : u ∈ (Builtin.zeroCells z n).toList) : u ∈ z.toList := by
  unfold Builtin.zeroCells at h
  simp at h
  obtain ⟨j, hj, rfl⟩ := h
  have hz : 0 < z.size := by
    rcases Nat.eq_zero_or_pos z.size with h0 | h0
    · rw [h0] at hj; simp at hj
    · exact h0
  rw [getElem!_pos z _ (Nat.mod_lt _ hz)]
  simp
theorem run_append_ss {P : Program} (w : World) (base : Nat) (t ty e : TypeId) (i : TypeInfo) (z : Value) (size bytes : Nat) (ht : P.underlying t = some (.slice e)) (hi : P.info? e = some i) (hz : i.zero = some z)
    (hsize : i.size = size) (hby : i.bytes = bytes) (hzs : z.cells.size = size) (hsz : 0 < size)
    (v : Value) (n : Nat) (xs : List Value) (hown : w.ownsRow base e size v n xs)
    (a : Addr) (m c : Nat) (news : List Value) (hl : news.length = m * size) (hnews : ∀ j u, news[j]? = some u → w.cell? (a.add j) = some u) (h1 : ∀ u ∈ news, u.oneCell' = true)
    (h63 : n + m ≤ maxLen) (hbytes : (n + m) * bytes ≤ 140737488355328) (hbase : base ≤ w.heap.size) (hm : 0 < m) (hk : Ss w v) (hni : ∀ u ∈ news, StrV u) (hzi : ∀ u ∈ z.cells.toList, StrV u) :
    ∃ v' w', (Builtin.append_ #[t, t] ty #[v, .slice (some a) m c]).run P w = .ok v' w' ∧ w'.ownsRow base e size v' (n + m) (xs ++ news) ∧ w.grownBy w' v.ownBlock ∧
      (v' = .slice none 0 0 ↔ v = .slice none 0 0 ∧ m = 0) ∧ Ss w' v' := by
  obtain ⟨v', w', hr, h2, h3, h4⟩ := run_append_own (P := P) w base t ty e i z size bytes ht hi hz hsize hby hzs hsz v n xs hown a m c news hl hnews h1 h63 hbytes hbase
  refine ⟨v', w', hr, h2, h3, h4, ?_⟩
  subst hsize
  subst hby
  have hsmall : n + m ≤ 9223372036854775807 := by simp only [maxLen] at h63; omega
  rcases hown.2 with ⟨rfl, rfl⟩ | ⟨g, cap, cur, rfl, hbg, hg, hnc, hcm, hcs, htake⟩
  · have hr2 := run_append_nil (P := P) w t ty e i z ht hi hz a m c news hl hnews (by omega) (by omega) (by have hb := hbytes; simp only [Nat.zero_add] at hb; omega)
    rw [hr2] at hr
    simp only [Result.ok.injEq] at hr
    obtain ⟨rfl, rfl⟩ := hr
    intro q hv
    simp only [Value.ownBlock, Option.some.injEq] at hv
    subst hv
    refine ⟨_, _, _, heap_alloc_new w.drew _, fun u hu => ?_⟩
    simp only [Array.toList_append, List.mem_append] at hu
    rcases hu with hu | hu
    · exact hni u (by simpa using hu)
    · exact hzi u (mem_zeroCells hu)
  · obtain ⟨cur', e', fr', hg', hints⟩ := hk g rfl
    rw [hg] at hg'
    simp only [Option.some.injEq, Obj.cells.injEq] at hg'
    obtain ⟨rfl, rfl, rfl⟩ := hg'
    by_cases hroom : n + m ≤ cap
    · have hfit : n * i.size + news.length ≤ cur.size := by rw [hl, hcs, ← Nat.add_mul]; exact Nat.mul_le_mul_right _ hroom
      have hr2 := run_append_room (P := P) w t ty e i ht hi g n cap cur hg a m c news hl hnews h1 hroom hfit
      rw [hr2] at hr
      simp only [Result.ok.injEq] at hr
      obtain ⟨rfl, rfl⟩ := hr
      intro q hv
      simp only [Value.ownBlock, Option.some.injEq] at hv
      subst hv
      refine ⟨_, _, _, setRow_heap w g cur _ e _ hg, fun u hu => ?_⟩
      simp only [List.mem_append] at hu
      rcases hu with (hu | hu) | hu
      · exact hints u (List.mem_of_mem_take hu)
      · exact hni u hu
      · exact hints u (List.mem_of_mem_drop hu)
    · have holds : ∀ j u, xs[j]? = some u → w.cell? ((⟨g, 0, none⟩ : Addr).add j) = some u := hown.cells (g := g) rfl
      have hr2 := run_append_grow (P := P) w t ty e i z ht hi hz ⟨g, 0, none⟩ n cap xs hown.1 holds a m c news hl hnews (by omega) (by omega) (growslice_fits (by omega) hbytes)
      rw [hr2] at hr
      simp only [Result.ok.injEq] at hr
      obtain ⟨rfl, rfl⟩ := hr
      intro q hv
      simp only [Value.ownBlock, Option.some.injEq] at hv
      subst hv
      refine ⟨_, _, _, heap_alloc_new w.drew _, fun u hu => ?_⟩
      simp only [Array.toList_append, List.mem_append] at hu
      rcases hu with (hu | hu) | hu
      · exact hints u (List.mem_of_mem_take (by rw [htake]; simpa using hu))
      · exact hni u (by simpa using hu)
      · exact hzi u (mem_zeroCells hu)
theorem wpList_append_ss {P : Program} (w : World) {ops : Array Oper} {rest : List Oper} {o : Oper} {a : Act} {Q : Exit → Act → World → Prop} (hgd : o.guard = none) (s x : Operand) (t : TypeId)
    (ho : o.op = .call { callee := .builtin .append, args := #[s, x], argTypes := #[t, t] })
    (base : Nat) (e : TypeId) (i : TypeInfo) (z : Value) (size bytes : Nat) (ht : P.underlying t = some (.slice e)) (hi : P.info? e = some i) (hz : i.zero = some z)
    (hsize : i.size = size) (hby : i.bytes = bytes) (hzs : z.cells.size = size) (hsz : 0 < size)
    (v : Value) (n : Nat) (xs : List Value) (hs : a.eval s = v) (hown : w.ownsRow base e size v n xs)
    (ad : Addr) (m c : Nat) (news : List Value) (hx : a.eval x = .slice (some ad) m c) (hl : news.length = m * size) (hnews : ∀ j u, news[j]? = some u → w.cell? (ad.add j) = some u) (h1 : ∀ u ∈ news, u.oneCell' = true)
    (h63 : n + m ≤ maxLen) (hbytes : (n + m) * bytes ≤ 140737488355328) (hbase : base ≤ w.heap.size) (hm : 0 < m) (hk : Ss w v) (hni : ∀ u ∈ news, StrV u) (hzi : ∀ u ∈ z.cells.toList, StrV u)
    (h : ∀ v' w', w'.ownsRow base e size v' (n + m) (xs ++ news) → w.grownBy w' v.ownBlock → Ss w' v' → wpList P ops Q rest (a.put o.dst v') w') : wpList P ops Q (o :: rest) a w :=
  wpList_plain hgd fun _ hK => by
    obtain ⟨v', w', hr, h2, h3, h4, h5⟩ := run_append_ss (P := P) w base t o.type e i z size bytes ht hi hz hsize hby hzs hsz v n xs hown ad m c news hl hnews h1 h63 hbytes hbase hm hk hni hzi
    unfold Oper.wp execOp
    simp only [ho, resolve, invoke, builtin, Sem.run_bind, Sem.run_pure, Result.andThen_ok, List.map_toArray, List.map_cons, List.map_nil, hs, hx, hr]
    exact hK _ _ (h v' w' h2 h3 h5)
/-- a row of texts that the call made, and texts in its spare cells -/
structure OwnT (w : World) (B : Nat) (v : Value) (l : List ByteArray) : Prop where
  o : OwnS w B v l
  s : Ss w v
theorem OwnT.nil (w : World) (B : Nat) : OwnT w B (.slice none 0 0) [] := ⟨RowG.Own.nil _ _ _ _, Ss.nil w 0 0⟩
theorem OwnT.heap {w w' : World} {B : Nat} {v : Value} {l : List ByteArray} (h : OwnT w B v l) (hs : ∀ q, v.ownBlock = some q → w'.heap[q]? = w.heap[q]?) : OwnT w' B v l := ⟨orow_heap h.o hs, h.s.heap hs⟩
theorem OwnT.base {w : World} {B C : Nat} {v : Value} {l : List ByteArray} (h : OwnT w B v l) (hC : C ≤ B) : OwnT w C v l := ⟨RowG.Own.base h.o hC, h.s⟩
theorem OwnT.below {w w' : World} {B C : Nat} {v : Value} {l : List ByteArray} (h : OwnT w B v l) (hb : Below C w w') (hC : w.heap.size ≤ C) : OwnT w' B v l :=
  h.heap fun q hq => hb.block q (by have := (h.o.lt q hq).2; omega)
theorem OwnT.alloc {w : World} {B : Nat} {v : Value} {l : List ByteArray} (h : OwnT w B v l) (o : Obj) : OwnT (w.alloc o) B v l :=
  h.heap fun q hq => by
    have := (h.o.lt q hq).2
    show (w.heap.push o)[q]? = _
    rw [Array.getElem?_push, if_neg (by omega)]
theorem own_setT {w : World} {B : Nat} {v : Value} {l : List ByteArray} (h : OwnT w B v l) (b j : Nat) (x : Value) (hne : v.ownBlock ≠ some b) : OwnT (w.setCell ⟨b, j, none⟩ x) B v l :=
  h.heap fun q hq => heap_setCell_other _ _ _ _ (fun e => hne (by rw [hq, e]))
theorem own_drewT {w : World} {B : Nat} {v : Value} {l : List ByteArray} (h : OwnT w B v l) : OwnT w.drew B v l := h.heap fun q hq => rfl
theorem st6_ownT {w : World} {B b : Nat} {v x0 x1 x2 x3 x4 x5 : Value} {l : List ByteArray} (h : OwnT w B v l) (hne : v.ownBlock ≠ some b) : OwnT (st6 w b x0 x1 x2 x3 x4 x5) B v l :=
  h.heap fun q hq => st6_other _ _ _ _ _ _ (fun e => hne (by rw [hq, e]))
theorem own_oneT (w : World) (B : Nat) (hB : B ≤ w.heap.size) (s : ByteArray) (hz : s.size ≤ 5000) : OwnT (w.alloc (.cells #[.string s] 9)) B (vS w.heap.size 1 1) [s] :=
  ⟨own_one w B hB s, fun q hq => by
    simp only [Value.ownBlock, Option.some.injEq] at hq
    subst hq
    exact ⟨_, _, _, heap_alloc_new w _, fun u hu => ⟨s, by simpa using hu, hz⟩⟩⟩
theorem flatS_str (l : List ByteArray) (hz : ∀ x ∈ l, x.size ≤ 5000) : ∀ u ∈ ES.flat l, StrV u := by
  induction l with
  | nil => simp [RowG.Enc.flat]
  | cons x r ih =>
    intro u hu
    simp only [RowG.Enc.flat, List.mem_append] at hu
    rcases hu with hu | hu
    · exact ⟨x, by simpa [ES] using hu, hz x (by simp)⟩
    · exact ih (fun y hy => hz y (by simp [hy])) u hu
theorem wpList_appT {ops : Array Oper} {rest : List Oper} {o : Oper} {a : Act} {Q : Exit → Act → World → Prop} {w : World} (hgd : o.guard = none) (s x : Operand)
    (ho : o.op = .call { callee := .builtin .append, args := #[s, x], argTypes := #[34, 34] })
    (B : Nat) (v : Value) (l m : List ByteArray) (sa : Option Addr) (cap : Nat) (hs : a.eval s = v) (hown : OwnT w B v l) (hx : a.eval x = .slice sa m.length cap) (hm : RdS w sa m) (hn : sa = none → m.length = 0 ∧ cap = 0)
    (hl : l.length + m.length ≤ 100000) (hB : B ≤ w.heap.size) (hv0 : m = [] → v = .slice none 0 0) (hz : ∀ x ∈ m, x.size ≤ 5000)
    (h : ∀ v' w', OwnT w' B v' (l ++ m) → w.grownBy w' v.ownBlock → wpList Try.prog ops Q rest (a.put o.dst v') w') : wpList Try.prog ops Q (o :: rest) a w := by
  obtain ⟨i0, hi, hz0, hz1, hz2⟩ := info_parts infoStr
  by_cases h0 : m = []
  · have hv := hv0 h0
    subst hv
    subst h0
    cases sa with
    | none =>
      obtain ⟨h1, h2⟩ := hn rfl
      subst h2
      refine wpList_append_own_none hgd s x _ ho B _ i0 1 Try.underlying34 hi _ l.length (ES.flat l) hs hown.o hx ?_
      exact h _ w (by rw [List.append_nil]; exact hown) (grown_refl w _)
    | some ad =>
      refine wpList_append_own _ hgd s x _ ho B _ i0 _ 1 _ Try.underlying34 hi hz0 hz1 hz2 rfl (by decide) _ l.length (ES.flat l) hs hown.o ad 0 cap [] hx (by simp) (fun j u hj => by simp at hj) (fun u hu => by simp at hu) (by unfold maxLen; omega) ?_ hB ?_
      · exact Nat.le_trans (Nat.mul_le_mul (by simpa using hl) (show _ ≤ 64 by decide)) (by decide)
      · intro v' w' q1 q2 q3
        have e := q3.2 ⟨rfl, rfl⟩
        subst e
        refine h _ w' ⟨?_, Ss.nil _ _ _⟩ q2
        rw [List.append_nil]
        show w'.ownsRow B _ 1 _ l.length (ES.flat l)
        simpa using q1
  · have hp : 0 < m.length := List.length_pos_iff.2 h0
    cases sa with
    | none => exact absurd (hn rfl).1 (by omega)
    | some ad =>
      obtain ⟨b, off, e1, _⟩ := RowG.Rd.at hm 0 hp
      simp only [Option.some.injEq] at e1
      subst e1
      refine wpList_append_ss _ hgd s x _ ho B _ i0 _ 1 _ Try.underlying34 hi hz0 hz1 hz2 rfl (by decide) v l.length (ES.flat l) hs hown.o _ m.length cap (ES.flat m) hx (RowG.flat_length ES m) (Rd.news hm (by decide)) (RowG.flat_one ES m) (by unfold maxLen; omega) ?_ hB hp hown.s (flatS_str m hz) (fun u hu => ⟨e0, by simpa [Value.cells] using hu, by decide⟩) ?_
      · exact Nat.le_trans (Nat.mul_le_mul hl (show _ ≤ 64 by decide)) (by decide)
      · intro v' w' q1 q2 q3
        refine h v' w' ⟨?_, q3⟩ q2
        unfold OwnS RowG.Own
        rw [RowG.flat_append, List.length_append]
        exact q1
end PortT
end Go.Proofs.Ytllfpbngfkimlaa
