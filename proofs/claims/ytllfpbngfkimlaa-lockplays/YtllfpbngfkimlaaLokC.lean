/- Contracts of the document's own answers about locks: HasAt. -/
import Derived.Test.YtllfpbngfkimlaaLokE
import Derived.Deep.RegionLaw
set_option linter.unusedVariables false
namespace Go.Proofs.Ytllfpbngfkimlaa
open Go.RowKit
open Go.Shelf Go.Sort
open SpanM SpanC IntsC
open RowsO hiding Wk
namespace LockC
open LockM
open NumC (Row)
theorem owni_cut {w : World} {B g n m cap : Nat} {l : List Int} (h : OwnI w B (vS g n cap) l) (hn : n = l.length) (hm : m ≤ n) : OwnI w B (vS g m cap) (l.take m) := by
  subst hn
  refine ⟨by simp, ?_⟩
  rcases h.2 with ⟨e0, _⟩ | ⟨g', cap', cur, e0, hb, hg, h1, h2, h3, h4⟩
  · simp at e0
  · simp only [Value.slice.injEq, Option.some.injEq, Addr.mk.injEq, and_true, true_and] at e0
    obtain ⟨rfl, rfl⟩ := e0
    have hl : (l.take m).length = m := by rw [List.length_take]; omega
    refine .inr ⟨g, cap, cur, by rw [hl], hb, hg, by omega, h2, h3, ?_⟩
    rw [hl, List.map_take, ← h4, List.take_take, Nat.mul_one, Nat.mul_one, Nat.min_eq_left hm]
theorem cloneN_any (w : World) : Calls Try.prog 51 #[.slice none 0 0] w fun e w' => (∃ v, e = .returned v ∧ OwnI w' w.heap.size v []) ∧ Below w.heap.size w w' := by
  have q := eqNilI
  go_enter Try.func51, Try.ntmps51
  go_wp2
  go_ret
  exact ⟨⟨_, rfl, World.ownsRow_nil _ _ _ _⟩, Below.refl _ _⟩
theorem cloneO_any {B : Nat} {a : Option Addr} {cap : Nat} {l : List Int} {w : World} (h : OwnI w B (.slice a l.length cap) l) (hl : l.length ≤ 1000) :
    Calls Try.prog 51 #[.slice a l.length cap] w fun e w' => (∃ v, e = .returned v ∧ OwnI w' w.heap.size v l) ∧ Below w.heap.size w w' := by
  rcases h.form with ⟨e, rfl⟩ | ⟨g, c, e, _⟩
  · simp only [Value.slice.injEq] at e
    obtain ⟨rfl, _, rfl⟩ := e
    exact cloneN_any w
  · simp only [Value.slice.injEq] at e
    obtain ⟨rfl, _, rfl⟩ := e
    obtain ⟨a, c, e2, hr, _⟩ := OwnI.row h
    simp only [Value.slice.injEq] at e2
    obtain ⟨rfl, _, rfl⟩ := e2
    exact cloneI_any g 0 cap l w hr hl
theorem bel_alloc {V X : World} (h : Below V.heap.size V X) (c : Obj) : Below V.heap.size V (X.alloc c) := h.alloc h.size c
theorem blk_new {X W : World} {c : Obj} (b : Below (X.alloc c).heap.size (X.alloc c) W) : W.heap[X.heap.size]? = some c := (b.block X.heap.size (by simp)).trans (heap_alloc_new X c)
theorem blk_newd {X W : World} {c : Obj} (b : Below (X.alloc c).drew.heap.size (X.alloc c).drew W) : W.heap[X.heap.size]? = some c := (b.block X.heap.size (by simp)).trans (heap_alloc_new X c)
theorem blk_on {X W : World} {i : Nat} {c : Obj} (h : X.heap[i]? = some c) (b : Below X.heap.size X W) : W.heap[i]? = some c :=
  (b.block i (by rcases Nat.lt_or_ge i X.heap.size with q | q; exact q; rw [Array.getElem?_eq_none q] at h; simp at h)).trans h
theorem owni_alloc {w : World} {B : Nat} {v : Value} {l : List Int} (h : OwnI w B v l) (c : Obj) : OwnI (w.alloc c) B v l := World.ownsRow.alloc h c
theorem hasAt_get {l : List LockM.Ac} {j : Nat} (h : j < l.length) : hasAt l (j + 1) = stp (hasAt l j) (l.getD j zAc) := by
  rw [hasAt_succ h]; simp [List.getD, h]
set_option maxRecDepth 20000 in
set_option maxHeartbeats 8000000 in
theorem HasAt_any (cm : Int) (l : List LockM.Ac) (a : Option Addr) (c : Nat) (hn : l.length ≤ 30) : ∀ (j : Nat) (w : World), Acs w a l → j ≤ l.length →
    Calls Try.prog 31 #[.agg #[.int .i64 cm, .slice a l.length c], .int .i64 j] w fun e w' => HaP l j w.heap.size e w' ∧ Below w.heap.size w w' := by
  intro j
  induction j with
  | zero =>
    intro w hr _
    clear hr
    go_enter Try.func31, Try.ntmps31
    go_wp2_with fail
    go_ret2
    exact ⟨⟨.slice none 0 0, [], rfl, World.ownsRow_nil _ _ _ _, Nat.le_refl _, fun h hh => by rw [hasAt_zero] at hh; simpa using hh⟩, (B1.start w _ _).bel⟩
  | succ j ih =>
    intro w hr hjl
    have HR := hid hr
    have HIH := hid (fun (W : World) (h : Below w.heap.size w W) => ih W (hr.below h (Nat.le_refl _)) (by omega))
    have HG := hid (hasAt_get (l := l) (j := j) (by omega))
    have hj30 : j < 30 := by omega
    have hj0 : (((j : Int) + 1) == 0) = false := by simp; omega
    have hjj : (j : Int) < (l.length : Int) := by omega
    rw [show (((j + 1 : Nat) : Int)) = (j : Int) + 1 by omega]
    have hjl' : j < l.length := by omega
    clear hr ih hjl
    go_enter Try.func31, Try.ntmps31
    go_wp2_with fail
    refine (HIH.out _ (B1.start w _ _).bel).mono ?_
    rintro e w1 ⟨⟨v, o, rfl, ho, hol, hh⟩, b1⟩
    have HB1 := hid ((B1.start w #[.int .i64 cm, .slice a l.length c] 70).step b1)
    have HO := hid (show OwnI w1 (w.heap.size + 1) v o by rw [World.size_alloc] at ho; exact ho)
    have HH := hid hh
    have HOL := hid hol
    have c0 := HB1.out.c0 0
    have c1 := HB1.out.c0 1
    simp at c0 c1
    obtain ⟨av, kv, rfl, hrow, hkv⟩ := owni_row ho
    have HROW := hid hrow
    have HKV := hid hkv
    clear ho b1 hh hol HIH hrow hkv
    cases hs : hasAt l j with
    | none =>
      have HX := hid (show hasAt l (j + 1) = none by rw [HG.out, hs]; rfl)
      simp only [Option.isSome_none]
      clear hs
      go_wp2_with fail
      go_ret2
      exact ⟨⟨.slice none 0 0, [], by rw [HX.out]; rfl, World.ownsRow_nil _ _ _ _, Nat.zero_le _, fun h hq => by rw [HX.out] at hq; simp at hq⟩, HB1.out.bel⟩
    | some h =>
      obtain rfl : o = h := HH.out h hs
      have HG2 := hid (show hasAt l (j + 1) = stp (some o) (l.getD j zAc) by rw [HG.out, hs])
      simp only [Option.isSome_some]
      obtain ⟨b, off, hab, _, d1, d2⟩ := (HR.out.below HB1.out.bel (Nat.le_refl _)).at j hjl'
      subst hab
      clear hs HH HG
      generalize l.getD j zAc = x at *
      obtain ⟨x1, x2⟩ := x
      simp only at d1 d2
      have hcase : x1 = 1 ∨ x1 = 2 ∨ x1 = 3 ∨ (x1 ≠ 1 ∧ x1 ≠ 2 ∧ x1 ≠ 3) := by omega
      rcases hcase with rfl | rfl | rfl | ⟨n1, n2, n3⟩
      · have HX := hid (show hasAt l (j + 1) = if 1 ≤ x2 ∧ x2 ≤ 100 then some o else none by rw [HG2.out]; simp [stp])
        have HS := hid (show (hasAt l (j + 1)).isSome = decide (1 ≤ x2 ∧ x2 ≤ 100) by rw [HX.out]; by_cases q : 1 ≤ x2 ∧ x2 ≤ 100 <;> simp [q])
        have HBT := hid (fun W => btw_any x2 1 100 W)
        generalize decide (1 ≤ x2 ∧ x2 ≤ 100) = D at *
        go_wp2_with fail
        refine (HBT.out _).mono ?_
        rintro e w2 ⟨rfl, rfl⟩
        clear c0 c1 d1 d2
        go_wp2_with fail
        go_ret2
        refine ⟨⟨_, o, by rw [HS.out]; rfl, World.ownsRow.alloc (OwnI.base' HO.out (by omega)) _, by have := HOL.out; omega, fun h hq => ?_⟩, HB1.out.bel.alloc HB1.out.bel.size _⟩
        rw [HX.out] at hq
        split at hq
        · simpa using hq
        · simp at hq
      · have HX := hid (show hasAt l (j + 1) = if 0 ≤ x2 ∧ x2 ≤ 7 ∧ x2 ∉ o then some (o ++ [x2]) else none by rw [HG2.out]; simp [stp])
        have HBB := hid (show Below w.heap.size w (w1.alloc (.cells #[.int .i64 2, .int .i64 x2] 74)) from HB1.out.bel.alloc HB1.out.bel.size _)
        have hf0 : (w1.alloc (.cells #[.int .i64 2, .int .i64 x2] 74)).cell? ⟨w1.heap.size, 1, none⟩ = some (.int .i64 x2) := World.cell?_alloc_at _ _ _ _ rfl
        have HOV := hid (show OwnI (w1.alloc (.cells #[.int .i64 2, .int .i64 x2] 74)) (w.heap.size + 1) (.slice av o.length kv) o from World.ownsRow.alloc HO.out _)
        have hrv := Row.below HROW.out ((Below.refl w1.heap.size w1).alloc (Nat.le_refl _) (.cells #[.int .i64 2, .int .i64 x2] 74)) (Nat.le_refl _)
        have hol30 : o.length < 30 := by have := HOL.out; omega
        go_wp2_with fail
        generalize hV : w1.alloc (.cells #[.int .i64 2, .int .i64 x2] 74) = V at *
        have HF := hid (fun (W : World) (h : Below V.heap.size V W) => ((h.cell (World.block_lt_of_cell? V _ hf0)).trans hf0 : W.cell? ⟨w1.heap.size, 1, none⟩ = some (.int .i64 x2)))
        have HCL := hid (fun (W : World) (h : Below V.heap.size V W) => ((cloneO_any (OwnI.below HOV.out h (Nat.le_refl _)) (by omega)).mono (by
          rintro e w' ⟨⟨v, rfl, ho⟩, b⟩
          exact ⟨⟨v, rfl, OwnI.base' ho h.size⟩, b, h.trans (b.mono h.size)⟩) : Calls Try.prog 51 #[.slice av o.length kv] W fun e w' => (∃ v, e = .returned v ∧ OwnI w' V.heap.size v o) ∧ Below W.heap.size W w' ∧ Below V.heap.size V w'))
        have HCT := hid (fun (W : World) (h : Below V.heap.size V W) => ((icontains_any av kv o x2 W (Row.below hrv h (Nat.le_refl _)) (by omega)).mono (by
          rintro e w' ⟨rfl, b⟩
          exact ⟨rfl, b, h.trans (b.mono h.size)⟩) : Calls Try.prog 39 #[.slice av o.length kv, .int .i64 x2] W fun e w' => e = .returned (.bool (decide (x2 ∈ o))) ∧ Below W.heap.size W w' ∧ Below V.heap.size V w'))
        have k1 : ∀ u ∈ ([.int .i64 x2] : List Value), u.oneCell' = true := by intro u hu; simp at hu; rcases hu with rfl; rfl
        have k2 : o.length + 1 ≤ maxLen := by unfold maxLen; omega
        have k3 : (o.length + 1) * 8 ≤ 140737488355328 := by omega
        obtain ⟨i0, hi, hz0, hz1, hz2⟩ := info_parts infoInt
        have Hi := hid hi
        have Hz0 := hid hz0
        have Hz1 := hid hz1
        have Hz2 := hid hz2
        have K1 := hid k1
        have hsV : w.heap.size ≤ V.heap.size := HBB.out.size
        have HEND := hid (fun (q : Bool) (hq : q = (hasAt l (j + 1)).isSome) (W : World) (v : Value) (hb : Below V.heap.size V W) (h : OwnI W V.heap.size v (o ++ [x2])) => (⟨⟨v, o ++ [x2], by rw [hq], OwnI.base' h (by omega), by simp; have := HOL.out; omega, fun h hq => by
          rw [HX.out] at hq
          split at hq
          · simpa using hq
          · simp at hq⟩, HBB.out.trans (hb.mono hsV)⟩ : HaP l (j + 1) w.heap.size (.returned (.tuple #[v, .bool q])) W ∧ Below w.heap.size w W))
        have HIS := hid (show (hasAt l (j + 1)).isSome = decide (0 ≤ x2 ∧ x2 ≤ 7 ∧ x2 ∉ o) by rw [HX.out]; by_cases q : 0 ≤ x2 ∧ x2 ≤ 7 ∧ x2 ∉ o <;> simp [q])
        have HFL := hid (flI_one [x2])
        have HSN := hid (fun (W : World) (v : Value) (h : W.ownsRow V.heap.size 3 1 v (o.length + 1) (flI o ++ flI [x2])) => (owni_snoc h (by simp) : OwnI W V.heap.size v (o ++ [x2])))
        have HTO := hid (show ∀ (W : World) (v : Value), OwnI W V.heap.size v o → W.ownsRow V.heap.size 3 1 v o.length (flI o) from fun W v h => h)
        clear hi hz0 hz1 hz2 k1 hrv HOV HROW d1 d2 c0 c1 HG2 hV HBB HX HB1 hsV
        by_cases hD : 0 ≤ x2 ∧ x2 ≤ 7
        · have HBT := hid (fun W => btw_true hD W)
          have HE := hid (fun W v => HEND.out (!(decide (x2 ∈ o))) (by rw [HIS.out]; simp [hD]) W v)
          clear hD HEND HIS
          generalize decide (x2 ∈ o) = M at *
          generalize o ++ [x2] = oo at *
          generalize flI o = fo at *
          go_region_held3 (fun W => W.cell? ⟨w1.heap.size, 1, none⟩ = some (.int .i64 x2)) (first | go_keep | exact HF.out _ (by (repeat' (first | assumption | exact (Below.refl _ _).drew | exact Below.refl _ _ | refine bel_alloc ?_ _ | refine Below.drew ?_))))
            (first
              | (go_at_call 51
                 refine (HCL.out _ ?_).mono ?_
                 · (repeat' (first | assumption | exact (Below.refl _ _).drew | exact Below.refl _ _ | refine bel_alloc ?_ _ | refine Below.drew ?_))
                 rintro e wc ⟨⟨vc, rfl, hoc⟩, bc, hbc⟩
                 first | have hnw := blk_newd bc | have hnw := blk_new bc | have hnw := blk_on hnw bc | skip
                 have e0 := HF.out _ hbc)
              | (go_at_call 12
                 refine (HBT.out _).mono ?_
                 rintro e wb ⟨rfl, rfl⟩)
              | (go_at_call 39
                 refine (HCT.out _ ?_).mono ?_
                 · (repeat' (first | assumption | exact (Below.refl _ _).drew | exact Below.refl _ _ | refine bel_alloc ?_ _ | refine Below.drew ?_))
                 rintro e wq ⟨rfl, bq, hbq⟩
                 first | have hnw := blk_newd bq | have hnw := blk_new bq | have hnw := blk_on hnw bq | skip
                 first | have hoa := OwnI.below hoa bq (Nat.le_refl _) | have hoc := OwnI.below hoc bq (Nat.le_refl _) | have hoc := OwnI.below (owni_alloc hoc _) bq (Nat.le_refl _) | skip
                 have e0 := HF.out _ hbq)
              | (refine step_append_own rfl _ _ _ (by rfl) V.heap.size 3 i0 (.int .i64 0) 1 8 Try.underlying23 Hi.out Hz0.out Hz1.out Hz2.out rfl (by decide) vc o.length fo (by rfl) (HTO.out _ vc (by (repeat' (first | assumption | refine owni_alloc ?_ _)))) _ 1 1 (flI [x2]) (by rfl) (by rfl) (World.news_of_block (by first | exact heap_alloc_new _ _ | exact hnw)) HFL.out k2 k3 ?_ ?_
                 · exact Below.size (show Below V.heap.size V _ by (repeat' (first | assumption | exact (Below.refl _ _).drew | exact Below.refl _ _ | refine bel_alloc ?_ _ | refine Below.drew ?_)))
                 intro va wa hown hgrow hnil
                 have hoa := HSN.out _ _ hown
                 have hba : Below V.heap.size V wa := Below.grown (show Below V.heap.size V _ by (repeat' (first | assumption | exact (Below.refl _ _).drew | exact Below.refl _ _ | refine bel_alloc ?_ _ | refine Below.drew ?_))) hgrow (Below.size (show Below V.heap.size V _ by (repeat' (first | assumption | exact (Below.refl _ _).drew | exact Below.refl _ _ | refine bel_alloc ?_ _ | refine Below.drew ?_)))) (fun g hg => (World.ownsRow.lt (HTO.out _ vc (by (repeat' (first | assumption | refine owni_alloc ?_ _)))) g hg).1)
                 have e0 := HF.out _ hba))
          all_goals
            go_wp2_with fail
            go_ret2
            exact HE.out _ _ (by (repeat' (first | assumption | exact (Below.refl _ _).drew | exact Below.refl _ _ | refine bel_alloc ?_ _ | refine Below.drew ?_))) (by (repeat' (first | assumption | refine owni_alloc ?_ _)))
        · have HBT := hid (fun W => btw_false hD W)
          have HE := hid (fun W v => HEND.out false (by rw [HIS.out]; symm; simp; intro q1 q2; exact absurd ⟨q1, q2⟩ hD) W v)
          clear hD HEND HIS HCT
          generalize o ++ [x2] = oo at *
          generalize flI o = fo at *
          have hVlt := World.block_lt_of_cell? V _ hf0
          simp only at hVlt
          first
            | (go_region_law
                  (first
                    | (go_simp
                       go_at_call 51
                       refine (HCL.out _ (by (repeat' (first | assumption | exact (Below.refl _ _).drew | exact Below.refl _ _ | refine bel_alloc ?_ _ | refine Below.drew ?_)))).mono ?_
                       rintro e wc ⟨⟨vc, rfl, hoc⟩, bc, hbc⟩
                       first | have hnw := blk_newd bc | have hnw := blk_new bc | have hnw := blk_on hnw bc | skip
                       have e0 := HF.out _ hbc
                       have e1 := World.block_lt_of_cell? _ _ e0
                       simp only at e1
                       go_wp2_with fail)
                    | (go_simp
                       go_at_call 12
                       refine (HBT.out _).mono ?_
                       rintro e wb ⟨rfl, rfl⟩
                       go_wp2_with fail)
                    | (refine step_append_own rfl _ _ _ (by rfl) V.heap.size 3 i0 (.int .i64 0) 1 8 Try.underlying23 Hi.out Hz0.out Hz1.out Hz2.out rfl (by decide) vc o.length fo (by rfl) (HTO.out _ vc (by (repeat' (first | assumption | refine owni_alloc ?_ _)))) _ 1 1 (flI [x2]) (by rfl) (by rfl) (World.news_of_block (by first | exact heap_alloc_new _ _ | exact hnw)) HFL.out k2 k3 ?_ ?_
                       · exact Below.size (show Below V.heap.size V _ by (repeat' (first | assumption | exact (Below.refl _ _).drew | exact Below.refl _ _ | refine bel_alloc ?_ _ | refine Below.drew ?_)))
                       intro va wa hown hgrow hnil
                       have hoa := HSN.out _ _ hown
                       have hba : Below V.heap.size V wa := Below.grown (show Below V.heap.size V _ by (repeat' (first | assumption | exact (Below.refl _ _).drew | exact Below.refl _ _ | refine bel_alloc ?_ _ | refine Below.drew ?_))) hgrow (Below.size (show Below V.heap.size V _ by (repeat' (first | assumption | exact (Below.refl _ _).drew | exact Below.refl _ _ | refine bel_alloc ?_ _ | refine Below.drew ?_)))) (fun g hg => (World.ownsRow.lt (HTO.out _ vc (by (repeat' (first | assumption | refine owni_alloc ?_ _)))) g hg).1)
                       have e0 := HF.out _ hba
                       have e1 := World.block_lt_of_cell? _ _ e0
                       simp only at e1)))
            | fail
          all_goals
            go_wp2_with fail
            go_ret2
            exact HE.out _ _ (by (repeat' (first | assumption | exact (Below.refl _ _).drew | exact Below.refl _ _ | refine bel_alloc ?_ _ | refine Below.drew ?_))) (by (repeat' (first | assumption | refine owni_alloc ?_ _)))
      · have HX := hid (show hasAt l (j + 1) = if o.getLast? = some x2 then some o.dropLast else none by rw [HG2.out]; simp [stp])
        have HBB := hid (show Below w.heap.size w (w1.alloc (.cells #[.int .i64 3, .int .i64 x2] 74)) from HB1.out.bel.alloc HB1.out.bel.size _)
        rcases List.eq_nil_or_concat o with he | ⟨o', y, he⟩
        · have HX2 := hid (show hasAt l (j + 1) = none by rw [HX.out, he]; simp)
          have hlen : o.length = 0 := by rw [he]; rfl
          rw [hlen]
          clear he hlen HX HG2
          go_wp2_with fail
          go_quiet (fail)
          go_wp2_with fail
          go_ret2
          exact ⟨⟨.slice none 0 0, [], by rw [HX2.out]; rfl, World.ownsRow_nil _ _ _ _, Nat.zero_le _, fun h hq => by rw [HX2.out] at hq; simp at hq⟩, below_drewN HBB.out _⟩
        · rw [List.concat_eq_append] at he
          have hlen : o.length = o'.length + 1 := by rw [he]; simp
          have HX2 := hid (show hasAt l (j + 1) = if y = x2 then some o' else none by
            rw [HX.out, he]
            simp)
          obtain ⟨g, kv', e', _⟩ : ∃ g kv', (Value.slice av o.length kv = vS g o.length kv') ∧ True := by
            rcases HO.out.form with ⟨e, e2⟩ | ⟨g, cp, e, _⟩
            · rw [e2] at hlen; simp at hlen
            · exact ⟨g, cp, e, trivial⟩
          simp only [Value.slice.injEq] at e'
          obtain ⟨rfl, hrr, hkk⟩ := e'
          subst hkk
          clear hrr
          have HOT := hid (owni_cut HO.out rfl (show o'.length ≤ o.length by omega))
          have htk : o.take o'.length = o' := by rw [he]; simp
          rw [htk] at HOT
          have hcell := OwnI.cell HO.out o'.length (by omega)
          have hy : o.getD o'.length 0 = y := by rw [he]; simp [List.getD]
          rw [hy] at hcell
          have hg1 := World.block_lt_of_cell? w1 _ hcell
          have hcell2 : (w1.alloc (.cells #[.int .i64 3, .int .i64 x2] 74)).cell? ⟨g, o'.length, none⟩ = some (.int .i64 y) := Lib.cell?_alloc_some _ hcell
          have HKV2 := hid (show o'.length ≤ kv by have := HKV.out; omega)
          have HOL2 := hid (show o'.length < j by have := HOL.out; omega)
          rw [hlen]
          obtain ⟨m, hm⟩ : ∃ m, m = o'.length := ⟨_, rfl⟩
          rw [← hm] at HOT hcell2 HKV2 HOL2 hlen ⊢
          have hm30 : m < 30 := by have := HOL2.out; omega
          have hmk : m ≤ kv := HKV2.out
          have HMO := hid hm
          obtain ⟨M, hM⟩ : ∃ M, M = m + 1 := ⟨_, rfl⟩
          rw [← hM]
          have hM0 : ((M : Int) == 0) = false := by simp; omega
          have hwm : IntKind.i64.wrap ((M : Int) - 1) = (m : Int) := by rw [IntKind.wrap_i64]; omega
          have hMm : (M : Int) - 1 = (m : Int) := by omega
          have hmM : (m : Int) < (M : Int) := by omega
          have hmkI : (m : Int) ≤ (kv : Int) := by omega
          clear he hlen htk hcell hy hg1 HX HG2 hm hM HROW
          by_cases hq : y = x2
          · have hne : (y != x2) = false := by simp [hq]
            have HX3 := hid (show hasAt l (j + 1) = some o' by rw [HX2.out, if_pos hq])
            clear hq
            go_wp2_with fail
            go_quiet (fail)
            go_wp2_with fail
            go_ret2
            exact ⟨⟨_, o', by rw [HX3.out]; rfl, OwnI.base' (OwnI.below HOT.out (below_drewN ((Below.refl w1.heap.size w1).alloc (Nat.le_refl _) _) _) (Nat.le_refl _)) (by omega), by have := HOL2.out; have := HMO.out; omega, fun h hq => by rw [HX3.out] at hq; simpa using hq⟩, below_drewN HBB.out _⟩
          · have hne : (y != x2) = true := by simp [hq]
            have HX3 := hid (show hasAt l (j + 1) = none by rw [HX2.out, if_neg hq])
            clear hq
            go_wp2_with fail
            go_quiet (fail)
            go_wp2_with fail
            go_ret2
            exact ⟨⟨.slice none 0 0, [], by rw [HX3.out]; rfl, World.ownsRow_nil _ _ _ _, Nat.zero_le _, fun h hq => by rw [HX3.out] at hq; simp at hq⟩, below_drewN HBB.out _⟩
      · have HX := hid (show hasAt l (j + 1) = none by rw [HG2.out]; simp [stp, n1, n2, n3])
        have e1 : (x1 == 1) = false := by simp [n1]
        have e2 : (x1 == 2) = false := by simp [n2]
        have e3 : (x1 == 3) = false := by simp [n3]
        clear n1 n2 n3
        go_wp2_with fail
        go_ret2
        exact ⟨⟨.slice none 0 0, [], by rw [HX.out]; rfl, World.ownsRow_nil _ _ _ _, Nat.zero_le _, fun h hq => by rw [HX.out] at hq; simp at hq⟩, HB1.out.bel.alloc HB1.out.bel.size _⟩
end LockC
end Go.Proofs.Ytllfpbngfkimlaa
