/- Contracts of package dutyref: TimesOf. -/
import Derived.Test.YtgehdpohiphcpaaTabH
import Derived.Test.YtgehdpohiphcpaaTabT
set_option linter.unusedVariables false
namespace Go.Proofs.Ytgehdpohiphcpaa
open Go.RowKit
open SpanM SpanC TabM
namespace TabC
theorem timesF_any (size t o : Int) (a : Option Addr) (cap : Nat) (l : List Win) (B C : Nat) (w : World) (hr : Wns w a l) (hk : tchk size l = 0) (h0 : 0 ≤ t) (h1 : t < size)
    (c0 : w.cell? ⟨B, 0, none⟩ = some (.int .i64 size)) (c1 : w.cell? ⟨B, 1, none⟩ = some (.slice a l.length cap)) (c2 : w.cell? ⟨C, 0, none⟩ = some (.int .i64 o)) :
    Calls Try.prog 44 #[.int .i64 t, .pointer (some ⟨B, 0, none⟩), .pointer (some ⟨C, 0, none⟩)] w fun e w' => e = .returned (.bool (decide (wown l (t % size) = o))) ∧ Below w.heap.size w w' := by
  have hs := (tchk_zero hk).2.1
  have HO := hid (fun W (h : Below w.heap.size w W) => ownerOf_any size t a cap l W (hr.below h (Nat.le_refl _)) hk h0 (by omega))
  have p0 := BelowOf.cell c0
  have p1 := BelowOf.cell c1
  have p2 := BelowOf.cell c2
  generalize wown l (t % size) = M at HO ⊢
  clear c0 c1 c2 hr hk
  go_enter Try.func44, Try.ntmps44
  go_wp2_with fail
  refine wp_region_quiet_below (by kernel_rfl) (by kernel_rfl) ?_
  repeat (quiet_step ((rename_i p; refine Calls.below_of p (HO.out _ p.hb))))
  refine wpQuiet_nil ?_
  rintro wq ⟨⟨_, hbq⟩, rfl⟩
  go_wp2_with fail
  go_ret
  refine ⟨?_, hbq⟩
  congr 1
/-- the boxes of a call of TimesOf: the table, the owner, what is told -/
structure QBox (w W : World) (size o : Int) (v : Value) : Prop where
  sz : w.heap.size + 3 ≤ W.heap.size
  b0 : W.cell? ⟨w.heap.size, 0, none⟩ = some (.int .i64 size)
  b1 : W.cell? ⟨w.heap.size, 1, none⟩ = some v
  c0 : W.cell? ⟨w.heap.size + 1, 0, none⟩ = some (.int .i64 o)
  rb : RBox w W (w.heap.size + 1 + 1)
theorem QBox.start (w : World) (size o : Int) (v : Value) : QBox w (((w.alloc (.cells #[.int .i64 size, v] 24)).alloc (.cells #[.int .i64 o] 3)).alloc (.cells #[.int .i64 0, .slice none 0 0] 30)) size o v where
  sz := by simp
  b0 := (World.cell?_alloc_lt _ _ _ (by simp; omega)).trans ((World.cell?_alloc_lt _ _ _ (by simp)).trans (World.cell?_alloc_at _ _ _ _ rfl))
  b1 := (World.cell?_alloc_lt _ _ _ (by simp; omega)).trans ((World.cell?_alloc_lt _ _ _ (by simp)).trans (World.cell?_alloc_at _ _ _ _ rfl))
  c0 := (World.cell?_alloc_lt _ _ _ (by simp)).trans (World.cell?_alloc_at _ _ _ _ (by simp))
  rb := {
    sz := by simp
    r0 := World.cell?_alloc_at _ _ _ _ (by simp)
    r1 := World.cell?_alloc_at _ _ _ _ (by simp)
    f0 := World.frozen?_alloc_at _ _ _ _ (by simp)
    f1 := World.frozen?_alloc_at _ _ _ _ (by simp)
    be := by go_grown }
theorem QBox.step {w W W' : World} {size o : Int} {v : Value} (h : QBox w W size o v) (hb : Below W.heap.size W W') : QBox w W' size o v where
  sz := Nat.le_trans h.sz hb.size
  b0 := (hb.cell (by have := h.sz; simp; omega)).trans h.b0
  b1 := (hb.cell (by have := h.sz; simp; omega)).trans h.b1
  c0 := (hb.cell (by have := h.sz; simp; omega)).trans h.c0
  rb := h.rb.step (hb.mono (by have := h.sz; omega)) (by omega)
theorem QBox.drew {w W : World} {size o : Int} {v : Value} (h : QBox w W size o v) : QBox w W.drew size o v := h.step (Below.refl _ _).drew
theorem QBox.k0 {w W : World} {size o : Int} {v : Value} (h : QBox w W size o v) (u u' : Value) : ((W.setCell ⟨w.heap.size + 1 + 1, 0, none⟩ u).setCell ⟨w.heap.size + 1 + 1, 1, none⟩ u').cell? ⟨w.heap.size, 0, none⟩ = some (.int .i64 size) :=
  (World.cell?_setCell_other _ _ _ _ (by simp)).trans ((World.cell?_setCell_other _ _ _ _ (by simp)).trans h.b0)
theorem QBox.k1 {w W : World} {size o : Int} {v : Value} (h : QBox w W size o v) (u u' : Value) : ((W.setCell ⟨w.heap.size + 1 + 1, 0, none⟩ u).setCell ⟨w.heap.size + 1 + 1, 1, none⟩ u').cell? ⟨w.heap.size, 1, none⟩ = some v :=
  (World.cell?_setCell_other _ _ _ _ (by simp)).trans ((World.cell?_setCell_other _ _ _ _ (by simp)).trans h.b1)
set_option maxRecDepth 20000 in
set_option maxHeartbeats 1600000 in
theorem timesOf_any (size o : Int) (a : Option Addr) (cap : Nat) (l : List Win) (w : World) (hr : Wns w a l) (hk : tchk size l = 0) :
    Calls Try.prog 16 #[.agg #[.int .i64 size, .slice a l.length cap], .int .i64 o] w fun e w' => (∃ v r, e = .returned (.agg #[.int .i64 size, v]) ∧ Own w' w.heap.size v r ∧ good size (-1) r = true ∧ ∀ u, mem r u = (decide (0 ≤ u ∧ u < size) && decide (wown l (u % size) = o))) ∧ Below w.heap.size w w' := by
  obtain ⟨s1, s2, s3, s4⟩ := tchk_zero hk
  have HE := hid (fun W (h : Below w.heap.size w W) => edges_any size a cap l W (hr.below h (Nat.le_refl _)) hk)
  have HSO : Hid (∀ W v, QBox w W size o (.slice a l.length cap) → OwnI W (w.heap.size + 3) v (edges (spn l)) →
      Calls Try.prog 42 #[.int .i64 size, v, .func (.func 44) #[] #[.pointer (some ⟨w.heap.size, 0, none⟩), .pointer (some ⟨w.heap.size + 1, 0, none⟩)]] W fun e w' => (∃ v' r, e = .returned (.agg #[.int .i64 size, v']) ∧ (∃ a n c, v' = .slice a n c) ∧ Own w' W.heap.size v' r ∧ good size (-1) r = true ∧ ∀ u, mem r u = (decide (0 ≤ u ∧ u < size) && decide (wown l (u % size) = o))) ∧ QBox w w' size o (.slice a l.length cap)) := by
    intro W v qb hv
    have hlen : (edges (spn l)).length ≤ 8000000 := by rw [edges_length, spn, List.length_map]; omega
    refine (setOf_any size v (edges (spn l)) _ 44 _ (fun t => decide (wown l (t % size) = o)) W s1 s2 hv hlen (enters_of Try.func44 (by kernel_rfl) rfl) ?_ ?_).mono ?_
    · intro W' t hb h0 h1
      have q := qb.step hb
      exact timesF_any size t o a cap l w.heap.size (w.heap.size + 1) W' (hr.below q.rb.be (Nat.le_refl _)) hk h0 h1 q.b0 q.b1 q.c0
    · intro c u h0 h1 h2 h3
      rw [Int.emod_eq_of_lt (by omega) h2, Int.emod_eq_of_lt h0 (by omega), wown_same h1 h3]
    · rintro e w' ⟨⟨v', r, he, ho, hg, hm⟩, hb⟩
      exact ⟨⟨v', r, he, ho.slice, ho, hg, hm⟩, qb.step hb⟩
  clear hr hk s4
  go_enter Try.func16, Try.ntmps16
  go_wp2_with fail
  have QB := hid (QBox.start w size o (.slice a l.length cap))
  go_region_held3 (fun W => W.cell? ⟨w.heap.size, 0, none⟩ = some (.int .i64 size) ∧ W.cell? ⟨w.heap.size, 1, none⟩ = some (.slice a l.length cap)) (go_keep)
    (first
      | (go_at_call 43
         refine (HE.out _ (by first | exact QB.out.rb.be | exact QB.out.drew.rb.be | exact QB.out.drew.drew.rb.be)).mono ?_
         rintro e w2 ⟨⟨v2, rfl, ho2⟩, hb2⟩
         have qb2 := QB.out.drew.step hb2
         have x0 := qb2.b0
         have x1 := qb2.b1
         have QB2 := hid qb2
         have OI2 := hid (OwnI.base ho2 QB.out.drew.sz)
         clear hb2 ho2 qb2)
      | (go_at_call 42
         refine (HSO.out _ _ (by first | exact QB2.out | exact QB2.out.drew) (by first | exact OI2.out | exact World.ownsRow.drew OI2.out)).mono ?_
         rintro e w3 ⟨⟨v3, r, rfl, ⟨a3, n3, c3, rfl⟩, ho3, hg3, hm3⟩, qb3⟩
         have QB3 := hid qb3
         have HO3 := hid (Own.base ho3 (show w.heap.size + 1 + 1 + 1 ≤ _ from by first | exact QB2.out.sz | exact QB2.out.drew.sz))
         have HG3 := hid hg3
         have HM3 := hid hm3
         clear ho3 hg3 hm3
         have k0 := qb3.k0
         have k1 := qb3.k1
         obtain ⟨y1, y2, y3, y4, y5, y6, y7, y8, y9, y10⟩ := qb3))
  all_goals
    have z0 := QB3.out.rb.s0
    have z1 := QB3.out.rb.s1
    go_wp2_with fail
    refine bodyPost_ret (v := .agg #[.int .i64 size, .slice a3 n3 c3]) (by simp [results, Try.results16, go_sem, z0, z1]) rfl ⟨⟨_, r, rfl, Own.base (ownsRow_setCell_below (ownsRow_setCell_below HO3.out (by simp) _) (by simp) _) (by omega), HG3.out, HM3.out⟩, by go_grown⟩
end TabC
end Go.Proofs.Ytgehdpohiphcpaa
