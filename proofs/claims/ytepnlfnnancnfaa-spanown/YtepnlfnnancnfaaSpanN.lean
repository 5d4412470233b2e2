/- Contracts of package span: Not. -/
import Derived.Test.YtepnlfnnancnfaaSpanW
import Derived.Deep.RegionWith
set_option linter.unusedVariables false
namespace Go.Proofs.Ytepnlfnnancnfaa
open Go.RowKit
open SpanM
namespace SpanC
/-- the memory of a call of Not: the set that came in, and what is told -/
structure NBox (w W : World) (size : Int) (v : Value) : Prop where
  sz : w.heap.size + 2 ≤ W.heap.size
  b0 : W.cell? ⟨w.heap.size, 0, none⟩ = some (.int .i64 size)
  b1 : W.cell? ⟨w.heap.size, 1, none⟩ = some v
  r0 : W.cell? ⟨w.heap.size + 1, 0, none⟩ = some (.int .i64 0)
  r1 : W.cell? ⟨w.heap.size + 1, 1, none⟩ = some (.slice none 0 0)
  f0 : W.frozen? ⟨w.heap.size + 1, 0, none⟩ = false
  f1 : W.frozen? ⟨w.heap.size + 1, 1, none⟩ = false
  be : Below w.heap.size w W
theorem NBox.start (w : World) (size : Int) (v : Value) : NBox w ((w.alloc (.cells #[.int .i64 size, v] 24)).alloc (.cells #[.int .i64 0, .slice none 0 0] 24)) size v where
  sz := by simp
  b0 := (World.cell?_alloc_lt _ _ _ (by simp)).trans (World.cell?_alloc_at _ _ _ _ rfl)
  b1 := (World.cell?_alloc_lt _ _ _ (by simp)).trans (World.cell?_alloc_at _ _ _ _ rfl)
  r0 := World.cell?_alloc_at _ _ _ _ (by simp)
  r1 := World.cell?_alloc_at _ _ _ _ (by simp)
  f0 := World.frozen?_alloc_at _ _ _ _ (by simp)
  f1 := World.frozen?_alloc_at _ _ _ _ (by simp)
  be := by go_grown
theorem NBox.step {w W W' : World} {size : Int} {v : Value} (h : NBox w W size v) (hb : Below (w.heap.size + 2) W W') : NBox w W' size v where
  sz := Nat.le_trans h.sz hb.size
  b0 := (hb.cell (by simp)).trans h.b0
  b1 := (hb.cell (by simp)).trans h.b1
  r0 := (hb.cell (by simp)).trans h.r0
  r1 := (hb.cell (by simp)).trans h.r1
  f0 := (hb.frozen (by simp)).trans h.f0
  f1 := (hb.frozen (by simp)).trans h.f1
  be := h.be.trans (hb.mono (by omega))
theorem NBox.s0 {w W : World} {size : Int} {v : Value} (h : NBox w W size v) (u : Value) : (W.setCell ⟨w.heap.size + 1, 0, none⟩ u).cell? ⟨w.heap.size + 1, 0, none⟩ = some u := World.cell?_setCell_same _ _ _ h.r0
theorem NBox.s1 {w W : World} {size : Int} {v : Value} (h : NBox w W size v) (u u' : Value) : ((W.setCell ⟨w.heap.size + 1, 0, none⟩ u).setCell ⟨w.heap.size + 1, 1, none⟩ u').cell? ⟨w.heap.size + 1, 1, none⟩ = some u' :=
  World.cell?_setCell_same _ _ _ ((World.cell?_setCell_other _ _ _ _ (by simp)).trans h.r1)
theorem NBox.drew {w W : World} {size : Int} {v : Value} (h : NBox w W size v) : NBox w W.drew size v := h.step ((Below.refl _ _).drew)
theorem Own.drew {w : World} {B : Nat} {v : Value} {l : List Sp} (h : Own w B v l) : Own w.drew B v l := World.ownsRow.drew h
theorem Told.set {size : Int} {r : List Sp} {B C : Nat} {e : Ending} {w : World} (h : Told size r B e w) (p q : Addr) (hp : p.block < B) (hq : q.block < B) (u u' : Value) (hC : C ≤ B) : Told size r C e ((w.setCell p u).setCell q u') := by
  rcases h with ⟨h1, v, h2, h3⟩ | h1
  · exact .inl ⟨h1, v, h2, Own.base (ownsRow_setCell_below (ownsRow_setCell_below h3 hp u) hq u') hC⟩
  · exact .inr h1

set_option maxHeartbeats 400000 in
theorem not_err (size : Int) (a : Option Addr) (cap : Nat) (l : List Sp) (w : World) (hr : Sps w a l) (hk : chk size l ≠ 0) :
    Calls Try.prog 26 #[.agg #[.int .i64 size, .slice a l.length cap]] w fun e w' => e = .returned (.tuple #[.agg #[.int .i64 0, .slice none 0 0], .int .i64 (chk size l)]) ∧ Below w.heap.size w w' := by
  have hc := fun W (h : Below w.heap.size w W) => check_any size a cap l W (hr.below h (Nat.le_refl _))
  have hne : (chk size l != 0) = true := by simp [hk]
  clear hr hk
  generalize chk size l = c at hc hne ⊢
  have HC : Hid _ := hc
  clear hc
  go_enter Try.func26, Try.ntmps26
  go_wp2_with fail
  refine (HC.out _ (by go_grown)).mono ?_
  rintro e w1 ⟨rfl, b1⟩
  have nb := (NBox.start w size (.slice a l.length cap)).step (b1.mono (by simp))
  have NB : Hid (NBox w w1 size (.slice a l.length cap)) := nb
  obtain ⟨x1, x2, x3, x4, x5, x6, x7, x8⟩ := nb
  clear b1
  have z0 := NB.out.s0
  have z1 := NB.out.s1
  go_wp2_with fail
  exact bodyPost_ret (v := .tuple #[.agg #[.int .i64 0, .slice none 0 0], .int .i64 c]) (by simp [results, Try.results26, go_sem, z0, z1]) rfl ⟨rfl, by go_grown⟩
set_option maxHeartbeats 1000000 in
theorem not_ok (size : Int) (a : Option Addr) (cap : Nat) (l : List Sp) (w : World) (hr : Sps w a l) (hk : chk size l = 0) :
    Calls Try.prog 26 #[.agg #[.int .i64 size, .slice a l.length cap]] w fun e w' => Told size (notE size 0 l) w.heap.size e w' ∧ Below w.heap.size w w' := by
  have HC : Hid _ := fun W (h : Below w.heap.size w W) => check_ok size a cap l W (hr.below h (Nat.le_refl _)) hk
  obtain ⟨s1, s2, s3, s4⟩ := chk_zero hk
  have HR : Hid (Sps w a l) := hr
  clear hr hk s4
  go_enter Try.func26, Try.ntmps26
  go_wp2_with fail
  refine (HC.out _ (by go_grown)).mono ?_
  rintro e w1 ⟨rfl, b1⟩
  have nb := (NBox.start w size (.slice a l.length cap)).step (b1.mono (by simp))
  have NB : Hid (NBox w w1 size (.slice a l.length cap)) := nb
  obtain ⟨x1, x2, x3, x4, x5, x6, x7, x8⟩ := nb
  clear b1
  go_wp2_with fail
  clear x1 x2 x3 x4 x5 x6 x7 x8
  go_loopw [5, 6, 18] (fun v5 v6 v18 wr => ∃ (k : Nat) (E : Int), k ≤ l.length ∧ v6 = .int .i64 E ∧ v18 = .int .i64 k ∧ Hid (E = lastEnd 0 (l.take k)) ∧ Own wr (w.heap.size + 2) v5 (gaps 0 (l.take k)) ∧ NBox w wr size (.slice a l.length cap)) (fun _ _ v18 _ => l.length - (intOf v18).toNat)
  case atStart => exact ⟨0, 0, by omega, rfl, rfl, by show _ = _; simp [lastEnd], Own.nil _ _, NB.out⟩
  case round =>
    obtain ⟨k, E, hk, rfl, rfl, hE, ho, nb⟩ := hrel
    have HO : Hid _ := ho
    have NB2 : Hid (NBox w wr size (.slice a l.length cap)) := nb
    have hgl : (gaps 0 (l.take k)).length ≤ 200 := by
      have := gaps_len 0 (l.take k)
      simp only [List.length_take] at this
      omega
    obtain ⟨p, n, c, rfl⟩ := ho.slice
    have hsz := nb.sz
    by_cases hlt : k < l.length
    · obtain ⟨b, off, rfl, hbw, d1, d2⟩ := (HR.out.below nb.be (Nat.le_refl _)).at k hlt
      have hd := take_snoc l k hlt
      clear nb ho
      generalize hz : l.getD k (0, 0) = z at d1 d2 hd
      obtain ⟨f, t⟩ := z
      have Hd : Hid _ := hd
      clear hz hd
      simp only at d1 d2
      go_wp2_with fail
      refine (add_any (.slice p n c) (gaps 0 (l.take k)) E f (w.heap.size + 2) _ (World.ownsRow.alloc HO.out _) (by simp; omega) (by omega)).mono ?_
      rintro e w2 ⟨v', rfl, ho', hg'⟩
      have hX : some wr.heap.size ≠ (Value.slice p n c).ownBlock := by
        intro h
        have := (World.ownsRow.lt HO.out _ h.symm).2
        omega
      have y1 : w2.cell? ⟨wr.heap.size, 0, none⟩ = some (.int .i64 f) := hg'.cell (World.cell?_alloc_at _ _ _ _ rfl) (by simpa using hX)
      have y2 : w2.cell? ⟨wr.heap.size, 1, none⟩ = some (.int .i64 t) := hg'.cell (World.cell?_alloc_at _ _ _ _ rfl) (by simpa using hX)
      have hbb : Below (w.heap.size + 2) wr w2 := ((Below.refl _ _).alloc (by omega) _).trans (below_grown (World.ownsRow.alloc HO.out _) hg' (Nat.le_refl _) (by simp; omega))
      have NB3 : Hid (NBox w w2 size (.slice (some ⟨b, off, none⟩) l.length cap)) := NB2.out.step hbb
      have HO2 : Hid _ := ho'
      clear hg' hbb ho' hX
      go_wp2_with fail
      go_roundw
      case rel =>
        refine ⟨k + 1, t, by omega, by go_num, by go_num, ?_, ?_, NB3.out⟩
        · show _ = _
          rw [Hd.out, lastEnd_snoc]
        · have h2 := HO2.out
          rw [Hd.out, gaps_snoc, ← hE.out]
          exact h2
      case measure => simp [intOf]; omega
    · have he : l.take k = l := List.take_of_length_le (by omega)
      rw [he] at hE HO hgl
      obtain ⟨x1, x2, x3, x4, x5, x6, x7, x8⟩ := nb
      clear ho he
      have HX8 : Hid _ := x8
      clear x8
      go_wp2_with fail
      go_region_with (first | (go_at_call 45; refine (add_any (.slice p n c) (gaps 0 l) E size (w.heap.size + 2) _ (by first | exact HO.out | exact Own.drew HO.out) (by first | omega | (simp; omega)) (by omega)).mono ?_; rintro e w2 ⟨v', rfl, ho', hg'⟩; have HO2 : Hid (Own w2 (w.heap.size + 2) v' (addL (gaps 0 l) (E, size))) := ho'; have NB3 : Hid (NBox w w2 size (.slice a l.length cap)) := (by first | exact NB2.out.step (below_grown HO.out hg' (Nat.le_refl _) (by first | omega | (simp; omega))) | exact NB2.out.drew.step (below_grown HO.out.drew hg' (Nat.le_refl _) (by first | omega | (simp; omega)))); clear ho' hg'; obtain ⟨y1, y2, y3, y4, y5, y6, y7, y8⟩ := NB3.out) | (go_at_call 46; refine (tell_any _ _ size _ _ HO2.out).mono ?_; rintro e w3 ⟨⟨s, u, er, rfl, ⟨ua, un, uc, rfl⟩, htd⟩, hb3⟩; have NB4 : Hid (NBox w w3 size (.slice a l.length cap)) := NB3.out.step (hb3.mono NB3.out.sz); have HT := hid htd; clear htd hb3; clear y1 y2 y3 y4 y5 y6 y7 y8; obtain ⟨x1, x2, x3, x4, x5, x6, x7, x8⟩ := NB4.out))
      all_goals
        have z0 := NB4.out.s0
        have z1 := NB4.out.s1
        go_wp2_with fail
        refine bodyPost_ret (v := .tuple #[.agg #[.int .i64 s, .slice ua un uc], .int .i64 er]) (by simp [results, Try.results26, go_sem, z0, z1]) rfl ⟨?_, by go_grown⟩
        have ht := HT.out
        rw [hE.out, notE_eq] at ht
        exact ht.set _ _ (by simp) (by simp) _ _ (by omega)
end SpanC
end Go.Proofs.Ytepnlfnnancnfaa
