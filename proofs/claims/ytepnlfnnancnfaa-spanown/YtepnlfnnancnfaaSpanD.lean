/- Lists that the call made, with what their spare cells hold: ints (SpanOwn asks it). -/
import Derived.Test.YtepnlfnnancnfaaSpanK
set_option linter.unusedVariables false
namespace Go.Proofs.Ytepnlfnnancnfaa
open Go.RowKit
open SpanM
namespace SpanC
def IntV (u : Value) : Prop := ∃ z, u = .int .i64 z
/-- every cell of a slice's block is an int -/
def Ks (w : World) (v : Value) : Prop := ∀ g n cap, v = .slice (some ⟨g, 0, none⟩) n cap → ∃ cur e fr, w.heap[g]? = some (.cells cur e fr) ∧ ∀ u ∈ cur.toList, IntV u
theorem Ks.nil (w : World) (n c : Nat) : Ks w (.slice none n c) := fun g n cap h => by simp at h
theorem Ks.grown {w w' : World} {row : Option Nat} {v : Value} (h : Ks w v) (hg : w.grownBy w' row) (hne : v.ownBlock ≠ row ∨ row = none) : Ks w' v := by
  intro g n cap hv
  obtain ⟨cur, e, fr, h1, h2⟩ := h g n cap hv
  have hlt : g < w.heap.size := by
    by_cases hl : g < w.heap.size
    · exact hl
    · rw [Array.getElem?_eq_none (by omega)] at h1; simp at h1
  refine ⟨cur, e, fr, (hg.block g hlt ?_).trans h1, h2⟩
  subst hv
  rcases hne with h | h
  · exact fun e => h (by rw [← e]; rfl)
  · rw [h]; simp
theorem mem_zeroCells {z : Array Value} {n : Nat} {u : Value} (h : u ∈ (Builtin.zeroCells z n).toList) : u ∈ z.toList := by
  unfold Builtin.zeroCells at h
  simp at h
  obtain ⟨j, hj, rfl⟩ := h
  have hz : 0 < z.size := by
    rcases Nat.eq_zero_or_pos z.size with h0 | h0
    · rw [h0] at hj; simp at hj
    · exact h0
  rw [getElem!_pos z _ (Nat.mod_lt _ hz)]
  simp
theorem run_append_ks {P : Program} (w : World) (base : Nat) (t ty e : TypeId) (i : TypeInfo) (z : Value) (size bytes : Nat) (ht : P.underlying t = some (.slice e)) (hi : P.info? e = some i) (hz : i.zero = some z)
    (hsize : i.size = size) (hby : i.bytes = bytes) (hzs : z.cells.size = size) (hsz : 0 < size)
    (v : Value) (n : Nat) (xs : List Value) (hown : w.ownsRow base e size v n xs)
    (a : Addr) (m c : Nat) (news : List Value) (hl : news.length = m * size) (hnews : ∀ j u, news[j]? = some u → w.cell? (a.add j) = some u) (h1 : ∀ u ∈ news, u.oneCell' = true)
    (h63 : n + m ≤ maxLen) (hbytes : (n + m) * bytes ≤ 140737488355328) (hbase : base ≤ w.heap.size) (hm : 0 < m) (hk : Ks w v) (hni : ∀ u ∈ news, IntV u) (hzi : ∀ u ∈ z.cells.toList, IntV u) :
    ∃ v' w', (Builtin.append_ #[t, t] ty #[v, .slice (some a) m c]).run P w = .ok v' w' ∧ w'.ownsRow base e size v' (n + m) (xs ++ news) ∧ w.grownBy w' v.ownBlock ∧
      (v' = .slice none 0 0 ↔ v = .slice none 0 0 ∧ m = 0) ∧ Ks w' v' := by
  obtain ⟨v', w', hr, h2, h3, h4⟩ := run_append_own (P := P) w base t ty e i z size bytes ht hi hz hsize hby hzs hsz v n xs hown a m c news hl hnews h1 h63 hbytes hbase
  refine ⟨v', w', hr, h2, h3, h4, ?_⟩
  subst hsize
  subst hby
  have hsmall : n + m ≤ 9223372036854775807 := by simp only [maxLen] at h63; omega
  rcases hown.2 with ⟨rfl, rfl⟩ | ⟨g, cap, cur, rfl, hbg, hg, hnc, hcm, hcs, htake⟩
  · have hr2 := run_append_nil (P := P) w t ty e i z ht hi hz a m c news hl hnews (by omega) (by omega) (by have hb := hbytes; simp only [Nat.zero_add] at hb; omega)
    rw [hr2] at hr
    simp only [Result.ok.injEq] at hr
    obtain ⟨rfl, rfl⟩ := hr
    intro g n' cap' hv
    simp only [Value.slice.injEq, Option.some.injEq, Addr.mk.injEq] at hv
    obtain ⟨⟨rfl, _⟩, _⟩ := hv
    refine ⟨_, _, _, heap_alloc_new w.drew _, fun u hu => ?_⟩
    simp only [Array.toList_append, List.mem_append] at hu
    rcases hu with hu | hu
    · exact hni u (by simpa using hu)
    · exact hzi u (mem_zeroCells hu)
  · obtain ⟨cur', e', fr', hg', hints⟩ := hk g n cap rfl
    rw [hg] at hg'
    simp only [Option.some.injEq, Obj.cells.injEq] at hg'
    obtain ⟨rfl, rfl, rfl⟩ := hg'
    by_cases hroom : n + m ≤ cap
    · have hfit : n * i.size + news.length ≤ cur.size := by rw [hl, hcs, ← Nat.add_mul]; exact Nat.mul_le_mul_right _ hroom
      have hr2 := run_append_room (P := P) w t ty e i ht hi g n cap cur hg a m c news hl hnews h1 hroom hfit
      rw [hr2] at hr
      simp only [Result.ok.injEq] at hr
      obtain ⟨rfl, rfl⟩ := hr
      intro g2 n' cap' hv
      simp only [Value.slice.injEq, Option.some.injEq, Addr.mk.injEq] at hv
      obtain ⟨⟨rfl, _⟩, _⟩ := hv
      refine ⟨_, _, _, setRow_heap w g cur _ e _ hg, fun u hu => ?_⟩
      simp only [List.mem_append] at hu
      rcases hu with (hu | hu) | hu
      · exact hints u (List.mem_of_mem_take hu)
      · exact hni u hu
      · exact hints u (List.mem_of_mem_drop hu)
    · have holds : ∀ j u, xs[j]? = some u → w.cell? ((⟨g, 0, none⟩ : Addr).add j) = some u := hown.cells (g := g) rfl
      have hr2 := run_append_grow (P := P) w t ty e i z ht hi hz ⟨g, 0, none⟩ n cap xs hown.1 holds a m c news hl hnews (by omega) (by omega) (growslice_fits (by omega) hbytes)
      rw [hr2] at hr
      simp only [Result.ok.injEq] at hr
      obtain ⟨rfl, rfl⟩ := hr
      intro g2 n' cap' hv
      simp only [Value.slice.injEq, Option.some.injEq, Addr.mk.injEq] at hv
      obtain ⟨⟨rfl, _⟩, _⟩ := hv
      refine ⟨_, _, _, heap_alloc_new w.drew _, fun u hu => ?_⟩
      simp only [Array.toList_append, List.mem_append] at hu
      rcases hu with (hu | hu) | hu
      · exact hints u (List.mem_of_mem_take (by rw [htake]; simpa using hu))
      · exact hni u (by simpa using hu)
      · exact hzi u (mem_zeroCells hu)
theorem wpList_append_ks {P : Program} (w : World) {ops : Array Oper} {rest : List Oper} {o : Oper} {a : Act} {Q : Exit → Act → World → Prop} (hgd : o.guard = none) (s x : Operand) (t : TypeId)
    (ho : o.op = .call { callee := .builtin .append, args := #[s, x], argTypes := #[t, t] })
    (base : Nat) (e : TypeId) (i : TypeInfo) (z : Value) (size bytes : Nat) (ht : P.underlying t = some (.slice e)) (hi : P.info? e = some i) (hz : i.zero = some z)
    (hsize : i.size = size) (hby : i.bytes = bytes) (hzs : z.cells.size = size) (hsz : 0 < size)
    (v : Value) (n : Nat) (xs : List Value) (hs : a.eval s = v) (hown : w.ownsRow base e size v n xs)
    (ad : Addr) (m c : Nat) (news : List Value) (hx : a.eval x = .slice (some ad) m c) (hl : news.length = m * size) (hnews : ∀ j u, news[j]? = some u → w.cell? (ad.add j) = some u) (h1 : ∀ u ∈ news, u.oneCell' = true)
    (h63 : n + m ≤ maxLen) (hbytes : (n + m) * bytes ≤ 140737488355328) (hbase : base ≤ w.heap.size) (hm : 0 < m) (hk : Ks w v) (hni : ∀ u ∈ news, IntV u) (hzi : ∀ u ∈ z.cells.toList, IntV u)
    (h : ∀ v' w', w'.ownsRow base e size v' (n + m) (xs ++ news) → w.grownBy w' v.ownBlock → (v' = .slice none 0 0 ↔ v = .slice none 0 0 ∧ m = 0) → Ks w' v' → wpList P ops Q rest (a.put o.dst v') w') : wpList P ops Q (o :: rest) a w :=
  wpList_plain hgd fun _ hK => by
    obtain ⟨v', w', hr, h2, h3, h4, h5⟩ := run_append_ks (P := P) w base t o.type e i z size bytes ht hi hz hsize hby hzs hsz v n xs hown ad m c news hl hnews h1 h63 hbytes hbase hm hk hni hzi
    unfold Oper.wp execOp
    simp only [ho, resolve, invoke, builtin, Sem.run_bind, Sem.run_pure, Result.andThen_ok, List.map_toArray, List.map_cons, List.map_nil, hs, hx, hr]
    exact hK _ _ (h v' w' h2 h3 h4 h5)
/-- a list that the call made, and ints in its spare cells -/
def OwnK (w : World) (B : Nat) (v : Value) (l : List Sp) : Prop := Own w B v l ∧ Ks w v
theorem OwnK.nil (w : World) (B : Nat) : OwnK w B (.slice none 0 0) [] := ⟨Own.nil w B, Ks.nil w 0 0⟩
theorem OwnK.kept {w w' : World} {B : Nat} {v : Value} {l : List Sp} (h : OwnK w B v l) (hg : w.grownBy w' none) : OwnK w' B v l := ⟨h.1.kept hg, h.2.grown hg (.inr rfl)⟩
theorem OwnK.below {w w' : World} {B C : Nat} {v : Value} {l : List Sp} (h : OwnK w B v l) (hb : Below C w w') (hC : w.heap.size ≤ C) : OwnK w' B v l := h.kept (grown_of_below hb hC none)
theorem OwnK.base {w : World} {B C : Nat} {v : Value} {l : List Sp} (h : OwnK w B v l) (hC : C ≤ B) : OwnK w C v l := ⟨h.1.base hC, h.2⟩
theorem OwnK.form {w : World} {B : Nat} {v : Value} {l : List Sp} (h : OwnK w B v l) : (v = .slice none 0 0 ∧ l = []) ∨ ∃ g cap, v = .slice (some ⟨g, 0, none⟩) l.length cap ∧ B ≤ g ∧ g < w.heap.size ∧ l.length ≤ cap ∧ cap ≤ maxLen := h.1.form
theorem OwnK.slice {w : World} {B : Nat} {v : Value} {l : List Sp} (h : OwnK w B v l) : ∃ a n c, v = .slice a n c := h.1.slice
theorem below_grownK {w w' : World} {B C : Nat} {v : Value} {l : List Sp} (ho : OwnK w B v l) (hg : w.grownBy w' v.ownBlock) (hB : C ≤ B) (hs : C ≤ w.heap.size) : Below C w w' := below_grown ho.1 hg hB hs
set_option maxRecDepth 20000 in
set_option maxHeartbeats 400000 in
theorem add_putK (v : Value) (l : List Sp) (f t : Int) (B : Nat) (w : World) (h : f < t) (ho : OwnK w B v l) (hB : B ≤ w.heap.size) (hl : l.length ≤ 1000) :
    Calls Try.prog 45 #[v, .agg #[.int .i64 f, .int .i64 t]] w fun e w' => ∃ v', e = .returned v' ∧ OwnK w' B v' (l ++ [(f, t)]) ∧ w.grownBy w' v.ownBlock := by
  obtain ⟨i0, hi, hz0, hz1, hz2⟩ := info_parts infoSp
  have Hi : Hid _ := hi
  have Hz0 : Hid _ := hz0
  have Hz1 : Hid _ := hz1
  have Hz2 : Hid _ := hz2
  clear hi hz0 hz1 hz2
  have HO : Hid (OwnK w B v l) := ho
  have hv : ∃ a n c, v = .slice a n c := by
    rcases ho.1.form with ⟨rfl, _⟩ | ⟨g, cap, rfl, _⟩
    · exact ⟨_, _, _, rfl⟩
    · exact ⟨_, _, _, rfl⟩
  clear ho
  obtain ⟨a, n, c, rfl⟩ := hv
  go_enter Try.func45, Try.ntmps45
  go_wp2_with (at_builtin; refine wpList_append_ks _ rfl _ _ 22 rfl B 45 i0 (.agg #[.int .i64 0, .int .i64 0]) 2 16 Try.underlying22 Hi.out Hz0.out Hz1.out Hz2.out rfl (by decide) _ l.length (flat l) rfl ?qc0 ⟨w.heap.size + 1, 0, none⟩ 1 1 [.int .i64 f, .int .i64 t] ?qcx ?qc1 ?qc2 ?qc3 ?qc4 ?qc5 ?qc6 ?qc7 ?qc8 ?qc9 ?qc10 ?_)
  case qc0 => exact World.ownsRow.alloc (World.ownsRow.alloc HO.out.1 _) _
  case qcx => rfl
  case qc1 => simp
  case qc2 =>
    intro j u hj
    match j, hj with
    | 0, hj => simp at hj; subst hj; exact World.cell?_alloc_at _ _ _ _ (by simp)
    | 1, hj => simp at hj; subst hj; exact World.cell?_alloc_at _ _ _ _ (by simp)
    | j + 2, hj => simp at hj
  case qc3 => intro u hu; simp at hu; rcases hu with rfl | rfl <;> rfl
  case qc4 => unfold maxLen; omega
  case qc5 => omega
  case qc6 => simp; omega
  case qc7 => decide
  case qc8 => exact (HO.out.2.grown (World.grownBy_alloc _ _ none) (.inr rfl)).grown (World.grownBy_alloc _ _ none) (.inr rfl)
  case qc9 => intro u hu; simp at hu; rcases hu with rfl | rfl <;> exact ⟨_, rfl⟩
  case qc10 => intro u hu; simp [Value.cells] at hu; rcases hu with rfl | rfl <;> exact ⟨_, rfl⟩
  intro v' w1 hown hgrow hnil hks
  go_wp2_with fail
  go_ret
  refine ⟨v', rfl, ?_, ?_⟩
  · refine ⟨?_, hks⟩
    unfold Own
    rw [flat_append, List.length_append]
    exact hown
  · exact ((World.grownBy_alloc _ _ _).trans (World.grownBy_alloc _ _ _)).trans hgrow
theorem add_anyK (v : Value) (l : List Sp) (f t : Int) (B : Nat) (w : World) (ho : OwnK w B v l) (hB : B ≤ w.heap.size) (hl : l.length ≤ 1000) :
    Calls Try.prog 45 #[v, .agg #[.int .i64 f, .int .i64 t]] w fun e w' => ∃ v', e = .returned v' ∧ OwnK w' B v' (addL l (f, t)) ∧ w.grownBy w' v.ownBlock := by
  unfold addL
  by_cases h : f < t
  · rw [if_pos (by exact h)]
    exact add_putK v l f t B w h ho hB hl
  · rw [if_neg (by exact h)]
    exact (add_skip v f t w (by omega) ho.1.slice).mono fun e w' ⟨he, hg⟩ => ⟨v, he, ho.kept hg, ⟨hg.os, hg.tape, hg.output, hg.size, fun k hk _ => hg.block k hk (by simp)⟩⟩

/-- what is told of a set, with an error if it has too many spans -/
def ToldK (size : Int) (r : List Sp) (B : Nat) (e : Ending) (w' : World) : Prop :=
  (r.length ≤ 200 ∧ ∃ v, e = .returned (.tuple #[.agg #[.int .i64 size, v], .int .i64 0]) ∧ OwnK w' B v r) ∨
  (200 < r.length ∧ e = .returned (.tuple #[.agg #[.int .i64 0, .slice none 0 0], .int .i64 2]))
theorem tell_anyK (v : Value) (r : List Sp) (size : Int) (B : Nat) (w : World) (ho : OwnK w B v r) :
    Calls Try.prog 46 #[.int .i64 size, v] w fun e w' => (∃ s u er, e = .returned (.tuple #[.agg #[.int .i64 s, u], .int .i64 er]) ∧ (∃ a n c, u = .slice a n c) ∧ ToldK size r B (.returned (.tuple #[.agg #[.int .i64 s, u], .int .i64 er])) w') ∧ Below w.heap.size w w' := by
  have hf : ∃ a c, v = .slice a r.length c := by
    obtain ⟨a, c, h, _⟩ := ho.1.sps
    exact ⟨a, c, h⟩
  obtain ⟨a, c, rfl⟩ := hf
  by_cases h : r.length ≤ 200
  · exact (tell_ok (.slice a r.length c) _ c a size w h).mono fun e w' ⟨he, hb⟩ => ⟨⟨_, _, _, he, ⟨_, _, _, rfl⟩, .inl ⟨h, _, rfl, ho.below hb (Nat.le_refl _)⟩⟩, hb⟩
  · exact (tell_large _ c a size w (by omega)).mono fun e w' ⟨he, hb⟩ => ⟨⟨_, _, _, he, ⟨_, _, _, rfl⟩, .inr ⟨by omega, rfl⟩⟩, hb⟩

theorem Ks.alloc {w : World} {v : Value} (h : Ks w v) (o : Obj) : Ks (w.alloc o) v := h.grown (World.grownBy_alloc _ _ none) (.inr rfl)
theorem Ks.drew {w : World} {v : Value} (h : Ks w v) : Ks w.drew v := h
theorem Ks.drewN {w : World} {v : Value} (h : Ks w v) (n : Nat) : Ks (w.drewN n) v := h
theorem OwnK.sps {w : World} {B : Nat} {v : Value} {l : List Sp} (h : OwnK w B v l) : ∃ a cap, v = .slice a l.length cap ∧ Sps w a l ∧ l.length ≤ cap ∧ cap ≤ maxLen := h.1.sps
theorem OwnK.alloc {w : World} {B : Nat} {v : Value} {l : List Sp} (h : OwnK w B v l) (o : Obj) : OwnK (w.alloc o) B v l := ⟨World.ownsRow.alloc h.1 o, h.2.grown (World.grownBy_alloc _ _ none) (.inr rfl)⟩
theorem OwnK.drew {w : World} {B : Nat} {v : Value} {l : List Sp} (h : OwnK w B v l) : OwnK w.drew B v l := ⟨Own.drew h.1, h.2⟩
theorem Ks.setCell {w : World} {v : Value} (h : Ks w v) (a : Addr) (u : Value) (hu : IntV u) : Ks (w.setCell a u) v := by
  intro g n cap hv
  obtain ⟨cur, e, fr, h1, h2⟩ := h g n cap hv
  by_cases hg : a.block = g
  · refine ⟨if a.spot.isSome then cur else cur.setIfInBounds a.off u, e, fr, ?_, ?_⟩
    · subst hg
      simp only [World.setCell, Array.getElem?_modify]
      rw [if_pos trivial, h1]
      rfl
    · intro y hy
      split at hy
      · exact h2 y hy
      · rw [Array.toList_setIfInBounds] at hy
        rcases List.mem_or_eq_of_mem_set hy with hy | rfl
        · exact h2 y hy
        · exact hu
  · exact ⟨cur, e, fr, by rw [Below.heap_setCell _ _ _ _ (by omega)]; exact h1, h2⟩
theorem OwnK.setCell_below {w : World} {B : Nat} {v : Value} {l : List Sp} (h : OwnK w B v l) {a : Addr} (ha : a.block < B) (u : Value) : OwnK (w.setCell a u) B v l := by
  refine ⟨ownsRow_setCell_below h.1 ha u, ?_⟩
  intro g n cap hv
  obtain ⟨cur, e, fr, h1, h2⟩ := h.2 g n cap hv
  have hB : B ≤ g := by
    rcases h.1.form with ⟨e1, _⟩ | ⟨g', c', e1, hb, _⟩
    · rw [hv] at e1; simp at e1
    · rw [hv] at e1; simp only [Value.slice.injEq, Option.some.injEq, Addr.mk.injEq] at e1; omega
  exact ⟨cur, e, fr, by rw [Below.heap_setCell _ _ _ _ (by omega)]; exact h1, h2⟩
theorem OwnK.setLast {w : World} {B g cap : Nat} {l : List Sp} {y : Sp} (t : Int) (h : OwnK w B (.slice (some ⟨g, 0, none⟩) (l ++ [y]).length cap) (l ++ [y])) :
    OwnK (w.setCell ⟨g, l.length * 2 + 1, none⟩ (.int .i64 t)) B (.slice (some ⟨g, 0, none⟩) (l ++ [(y.1, t)]).length cap) (l ++ [(y.1, t)]) :=
  ⟨h.1.setLast t, by
    intro g' n' c' hv
    simp only [Value.slice.injEq, Option.some.injEq, Addr.mk.injEq] at hv
    obtain ⟨⟨rfl, _⟩, _⟩ := hv
    exact (h.2.setCell ⟨g, l.length * 2 + 1, none⟩ (.int .i64 t) ⟨t, rfl⟩) g _ _ rfl⟩
theorem ToldK.set {size : Int} {r : List Sp} {B C : Nat} {e : Ending} {w : World} (h : ToldK size r B e w) (p q : Addr) (hp : p.block < B) (hq : q.block < B) (u u' : Value) (hC : C ≤ B) : ToldK size r C e ((w.setCell p u).setCell q u') := by
  rcases h with ⟨h1, v, h2, h3⟩ | h
  · exact .inl ⟨h1, v, h2, OwnK.base (OwnK.setCell_below (OwnK.setCell_below h3 hp u) hq u') hC⟩
  · exact .inr h
end SpanC
end Go.Proofs.Ytepnlfnnancnfaa
