/- Several texts, one behind the other: LtA LtB LtC PlyE PlyL PlyV LtD. -/
import Derived.Test.YtpnahhpkaegeeaaPkJ
import Derived.Maps.OwnSet
import Derived.Maps.OwnOps
import Derived.DeepKeys4
import Derived.Test.YtpnahhpkaegeeaaKPlyC
import Derived.Test.YtpnahhpkaegeeaaPkM
import Derived.Laws.StructEq
import Derived.Test.YtpnahhpkaegeeaaKOpenIn
/- Contracts: play.earliest: a map of jobs. -/
set_option linter.unusedVariables false
namespace Go.Proofs.Ytpnahhpkaegeeaa
open Go.RowKit hiding tok
open SpanM SpanC PlayM
open Go.Maps
namespace PlayC
open RowG
theorem laidOut0 : laidOutB Try.prog = true := by kernel_rfl
theorem lawL : Keyed Try.prog 47 := Keyed.of_law (deep_law_laid laidOut0 (m := 2) (by omega) (of_decide_eq_true (by kernel_rfl)) (by kernel_rfl) (by rw [Try.underlying47]))
theorem zeroI (w : World) : (zeroValue 3).run Try.prog w = .ok (.int .i64 0) w := by kernel_rfl
def kL (t j : Int) : Lit := .string (keyBytes [.int .i64 t, .int .i64 j])
set_option maxRecDepth 20000 in
theorem keyL {t j : Int} (ht : (Lit.int .i64 t).wf = true) (hj : (Lit.int .i64 j).wf = true) : keyOf Try.prog 47 (.agg #[.int .i64 t, .int .i64 j]) = some (kL t j) := by
  have h1 : Try.prog.keyType 47 = true := by kernel_rfl
  have h2 : Try.prog.cellsOf 47 = 2 := by kernel_rfl
  have h3 : Try.prog.cellsOf 3 = 1 := by kernel_rfl
  unfold keyOf
  rw [Try.underlying47]
  simp only
  rw [h1]
  have hf : (Value.agg #[.int .i64 t, .int .i64 j]).formed Try.prog 47 = true := by simp [Value.formed, Try.underlying47, h2]
  rw [hf]
  obtain ⟨d, hd⟩ : ∃ d, Try.prog.types.size = d + 1 := Nat.exists_eq_succ_of_ne_zero (by decide +kernel)
  rw [hd]
  have hc : (Value.agg #[.int .i64 t, .int .i64 j]).cells.toList = [.int .i64 t, .int .i64 j] := rfl
  rw [hc]
  have hl : Try.prog.keyLits (d + 1 + 1) 47 [.int .i64 t, .int .i64 j] = some [.int .i64 t, .int .i64 j] := by
    have e1 : ∀ x : Int, (Lit.int .i64 x).wf = true → Try.prog.keyLits (d + 1) 3 [.int .i64 x] = some [.int .i64 x] := fun x hx => by
      unfold Program.keyLits
      simp only [Try.underlying3]
      rw [if_pos ⟨trivial, hx⟩]
    unfold Program.keyLits
    simp only [Try.underlying47]
    rw [h2, if_pos ⟨rfl, by decide +kernel⟩]
    simp [h3, e1 t ht, e1 j hj]
  rw [hl]
  rfl
theorem wf_of {t : Int} (h : wf64 t) : (Lit.int .i64 t).wf = true := by
  unfold wf64 at h
  exact WalkArith.wf_i64 (by omega)
theorem kL_inj {t j t' j' : Int} (ht : wf64 t) (hj : wf64 j) (ht' : wf64 t') (hj' : wf64 j') (h : kL t j = kL t' j') : t = t' ∧ j = j' := by
  have := lawL.inj (keyL (wf_of ht) (wf_of hj)) (by rw [h]; exact keyL (wf_of ht') (wf_of hj'))
  simp at this
  exact this
theorem kL_key {t j : Int} (ht : wf64 t) (hj : wf64 j) : WideAt.IsKeyLit (kL t j) := lawL.key (keyL (wf_of ht) (wf_of hj))
abbrev DU := DataW Unit
abbrev i64 (n : Int) : DU := .lit (.int .i64 n)
/-- what the map tells of the jobs that are done -/
def Ear (D : DU) (l : List Pl.Dn) : Prop := IsMap D ∧ ∀ t j, wf64 t → wf64 j → (has D (kL t j) = true ↔ ∃ d ∈ l, d.1 = t ∧ d.2.1 = j) ∧
  (has D (kL t j) = true → ∃ m, D.atKey (kL t j) (i64 0) = i64 m ∧ (∃ d ∈ l, d.1 = t ∧ d.2.1 = j ∧ d.2.2.2 = m) ∧ ∀ d ∈ l, d.1 = t → d.2.1 = j → m ≤ d.2.2.2)
theorem Ear.nil : Ear (.map []) [] := ⟨isMap_empty, fun t j _ _ => ⟨by simp [has], fun h => by simp [has] at h⟩⟩
theorem Ear.put {D : DU} {l : List Pl.Dn} {x : Pl.Dn} {c : Int} (h : Ear D l) (h1 : wf64 x.1) (h2 : wf64 x.2.1) (hc : D.atKey (kL x.1 x.2.1) (i64 0) = i64 c) (hl : has D (kL x.1 x.2.1) = false ∨ x.2.2.2 < c) : Ear (D.put (kL x.1 x.2.1) (i64 x.2.2.2)) (l ++ [x]) := by
  obtain ⟨hm, h⟩ := h
  refine ⟨hm.put _ _, fun t j ht hj => ?_⟩
  by_cases he : kL t j = kL x.1 x.2.1
  · obtain ⟨rfl, rfl⟩ := kL_inj ht hj h1 h2 he
    have hk := kL_key h1 h2
    refine ⟨⟨fun _ => ⟨x, by simp, rfl, rfl⟩, fun _ => has_put_same hm hk _⟩, fun _ => ⟨x.2.2.2, atKey_put_same hm hk _ _, ⟨x, by simp, rfl, rfl, rfl⟩, fun d hd e1 e2 => ?_⟩⟩
    rcases List.mem_append.1 hd with hd | hd
    · have hh := (h x.1 x.2.1 ht hj).1.2 ⟨d, hd, e1, e2⟩
      obtain ⟨m, a1, _, a3⟩ := (h x.1 x.2.1 ht hj).2 hh
      rcases hl with hl | hl
      · rw [hh] at hl; simp at hl
      · rw [hc] at a1
        have : c = m := by simpa [i64] using a1
        have := a3 d hd e1 e2
        omega
    · simp at hd; rw [hd]; exact Int.le_refl _
  · rw [has_put_other he, atKey_put_other he]
    have hne : ¬ (x.1 = t ∧ x.2.1 = j) := fun e => he (by rw [e.1, e.2])
    obtain ⟨b1, b2⟩ := h t j ht hj
    refine ⟨⟨fun hh => ?_, ?_⟩, fun hh => ?_⟩
    · obtain ⟨d, hd, e⟩ := b1.1 hh
      exact ⟨d, List.mem_append_left _ hd, e⟩
    · rintro ⟨d, hd, e⟩
      rcases List.mem_append.1 hd with hd | hd
      · exact b1.2 ⟨d, hd, e⟩
      · simp at hd; subst hd; exact absurd e hne
    · obtain ⟨m, a1, ⟨d, hd, e⟩, a3⟩ := b2 hh
      refine ⟨m, a1, ⟨d, List.mem_append_left _ hd, e⟩, fun d' hd' e1 e2 => ?_⟩
      rcases List.mem_append.1 hd' with hd' | hd'
      · exact a3 d' hd' e1 e2
      · simp at hd'; subst hd'; exact absurd ⟨e1, e2⟩ hne
theorem Ear.same {D : DU} {l : List Pl.Dn} {x : Pl.Dn} {c : Int} (h : Ear D l) (h1 : wf64 x.1) (h2 : wf64 x.2.1) (hc : D.atKey (kL x.1 x.2.1) (i64 0) = i64 c) (hh : has D (kL x.1 x.2.1) = true) (hl : ¬ x.2.2.2 < c) : Ear D (l ++ [x]) := by
  obtain ⟨hm, h⟩ := h
  refine ⟨hm, fun t j ht hj => ?_⟩
  obtain ⟨b1, b2⟩ := h t j ht hj
  by_cases he : x.1 = t ∧ x.2.1 = j
  · obtain ⟨rfl, rfl⟩ := he
    refine ⟨⟨fun _ => ⟨x, by simp, rfl, rfl⟩, fun _ => hh⟩, fun _ => ?_⟩
    obtain ⟨m, a1, ⟨d, hd, e⟩, a3⟩ := b2 hh
    refine ⟨m, a1, ⟨d, List.mem_append_left _ hd, e⟩, fun d' hd' e1 e2 => ?_⟩
    rcases List.mem_append.1 hd' with hd' | hd'
    · exact a3 d' hd' e1 e2
    · simp at hd'; subst hd'
      rw [hc] at a1
      have : c = m := by simpa [i64] using a1
      omega
  · refine ⟨⟨fun hh => ?_, ?_⟩, fun hh => ?_⟩
    · obtain ⟨d, hd, e⟩ := b1.1 hh
      exact ⟨d, List.mem_append_left _ hd, e⟩
    · rintro ⟨d, hd, e⟩
      rcases List.mem_append.1 hd with hd | hd
      · exact b1.2 ⟨d, hd, e⟩
      · simp at hd; subst hd; exact absurd e he
    · obtain ⟨m, a1, ⟨d, hd, e⟩, a3⟩ := b2 hh
      refine ⟨m, a1, ⟨d, List.mem_append_left _ hd, e⟩, fun d' hd' e1 e2 => ?_⟩
      rcases List.mem_append.1 hd' with hd' | hd'
      · exact a3 d' hd' e1 e2
      · simp at hd'; subst hd'; exact absurd ⟨e1, e2⟩ he
theorem own_two {w : World} {b n : Nat} {D : DU} (h : w.ownsMap Try.prog 47 (plainElem Try.prog 3) b n D) (o o' : Obj) : ((w.alloc o).alloc o').ownsMap Try.prog 47 (plainElem Try.prog 3) b n D := (h.alloc o).alloc o'
theorem below_two2 (w : World) (B : Nat) (hB : B ≤ w.heap.size) (o o' : Obj) : Below B w ((w.alloc o).alloc o') := ((Below.refl _ w).alloc hB o).alloc (by rw [World.size_alloc]; omega) o'
set_option maxRecDepth 20000 in
set_option maxHeartbeats 1600000 in
theorem earliest_any (a : Option Addr) (n cap : Nat) (l : List Pl.Dn) (w : World) (hr : Rd ED w a l) (hn : n = l.length) (hl : n ≤ 30000) (hw : ∀ d ∈ l, wf64 d.1 ∧ wf64 d.2.1 ∧ wf64 d.2.2.2) :
    Calls Try.prog 55 #[.slice a n cap] w fun e w' => (∃ b D, e = .returned (.map (some b)) ∧ w.heap.size ≤ b ∧ w'.ownsMap Try.prog 47 (plainElem Try.prog 3) b n D ∧ Ear D l) ∧ Below w.heap.size w w' := by
  have hmm := @run_makeMap Try.prog
  have HR := hid hr
  have HN := hid hn
  have HW := hid hw
  clear hr hn hw
  go_enter Try.func55, Try.ntmps55
  go_wp2_with fail
  go_loopw [12] (fun vk wr => ∃ (k : Nat) (D : DU), k ≤ n ∧ vk = .int .i64 k ∧ wr.ownsMap Try.prog 47 (plainElem Try.prog 3) w.heap.size k D ∧ Ear D (l.take k) ∧ Below w.heap.size w wr) (fun vk _ => n - (intOf vk).toNat)
  case atStart => exact ⟨0, .map [], by omega, rfl, World.ownsMap_made _ _ _ _, by rw [List.take_zero]; exact Ear.nil, (Below.refl _ _).alloc (Nat.le_refl _) _⟩
  case round =>
    obtain ⟨k, D, hk, rfl, hown, hear, hbel⟩ := hrel
    by_cases hlt : k < n
    · obtain ⟨p, off, hpa, hca⟩ := (HR.out.below hbel (Nat.le_refl _)).at k (by have := HN.out; omega)
      subst hpa
      have hkl : k < l.length := by have := HN.out; omega
      have hta : l.take (k + 1) = l.take k ++ [l[k]] := List.take_succ_eq_append_getElem _
      have hwx := HW.out l[k] (List.getElem_mem hkl)
      generalize l[k] = x at hca hta hwx
      obtain ⟨x0, x1, x2, x3⟩ := x
      obtain ⟨wx0, wx1, wx3⟩ := hwx
      simp only at wx0 wx1 wx3
      have a0 := hca 0 (by decide); have a1 := hca 1 (by decide); have a2 := hca 2 (by decide); have a3 := hca 3 (by decide)
      simp [ED] at a0 a1 a2 a3
      have HTA := hid hta
      have HE := hid hear
      have HBL := hid hbel
      have HO := hid hown
      have i1 : (k : Int) < (n : Int) := by omega
      have HK := hid (keyL (wf_of wx0) (wf_of wx1))
      have HWF := hid (And.intro wx0 (And.intro wx1 wx3))
      have hsz := hbel.size
      clear hca hta hear hbel hown wx0 wx1 wx3
      cases hh : has D (kL x0 x1) with
      | false =>
        go_wp2_with (first | (at_lookup; refine wpList_lookup_own_ok_int _ rfl _ _ 93 rfl 47 3 .i64 lawL Try.underlying93 Try.underlying3 (zeroI _) w.heap.size k D rfl (own_two HO.out _ _) _ _ rfl HK.out ?_; intro c hat hwc; have HAT := hid hat; clear hat) | (at_mapUpdate; refine wpList_mapUpdate_own _ rfl _ _ _ 93 rfl 47 3 lawL Try.underlying93 _ w.heap.size k D rfl (own_two HO.out _ _) (by unfold maxLen; omega) _ _ _ rfl rfl HK.out _ [] (plainElem_int Try.underlying3 (wf_of HWF.out.2.2)) ?_; intro w1 hown1 hgrow1; have HO1 := hid hown1; have HB1 := hid (Below.grown (HBL.out.trans (below_two2 wr w.heap.size hsz _ _)) hgrow1 (by simp; omega) (fun q hq => by simp at hq; omega)); clear hown1 hgrow1))
        have HEA : Hid (Ear (D.put (kL x0 x1) (i64 x3)) (l.take (k + 1))) := by
          show Ear _ _
          rw [HTA.out]
          exact HE.out.put (x := (x0, x1, x2, x3)) HWF.out.1 HWF.out.2.1 HAT.out (.inl hh)
        go_roundw
        case rel => exact ⟨k + 1, _, by omega, by go_num, HO1.out, HEA.out, HB1.out⟩
        case measure => simp [intOf]; omega
      | true =>
        obtain ⟨m, hm, hm2, hm3⟩ := (HE.out.2 x0 x1 HWF.out.1 HWF.out.2.1).2 hh
        have HM := hid hm
        have HH := hid hh
        clear hm hm2 hm3
        by_cases hxm : x3 < m
        · clear hh
          have hh := HH.out
          go_wp2_with (first | (at_lookup; refine wpList_lookup_own_ok_int _ rfl _ _ 93 rfl 47 3 .i64 lawL Try.underlying93 Try.underlying3 (zeroI _) w.heap.size k D rfl (own_two HO.out _ _) _ _ rfl HK.out ?_; intro c hat hwc; have hcm : c = m := (by have := hat.symm.trans HM.out; simpa using this); subst hcm; have HAT := hid hat; clear hat) | (at_mapUpdate; refine wpList_mapUpdate_own _ rfl _ _ _ 93 rfl 47 3 lawL Try.underlying93 _ w.heap.size k D rfl (own_two HO.out _ _) (by unfold maxLen; omega) _ _ _ rfl rfl HK.out _ [] (plainElem_int Try.underlying3 (wf_of HWF.out.2.2)) ?_; intro w1 hown1 hgrow1; have HO1 := hid hown1; have HB1 := hid (Below.grown (HBL.out.trans (below_two2 wr w.heap.size hsz _ _)) hgrow1 (by simp; omega) (fun q hq => by simp at hq; omega)); clear hown1 hgrow1))
          have HEA : Hid (Ear (D.put (kL x0 x1) (i64 x3)) (l.take (k + 1))) := by
            show Ear _ _
            rw [HTA.out]
            exact HE.out.put (x := (x0, x1, x2, x3)) HWF.out.1 HWF.out.2.1 HAT.out (.inr hxm)
          go_roundw
          case rel => exact ⟨k + 1, _, by omega, by go_num, HO1.out, HEA.out, HB1.out⟩
          case measure => simp [intOf]; omega
        · go_wp2_with (first | (at_lookup; refine wpList_lookup_own_ok_int _ rfl _ _ 93 rfl 47 3 .i64 lawL Try.underlying93 Try.underlying3 (zeroI _) w.heap.size k D rfl (own_two HO.out _ _) _ _ rfl HK.out ?_; intro c hat hwc; have hcm : c = m := (by have := hat.symm.trans HM.out; simpa using this); subst hcm; have HAT := hid hat; clear hat))
          have HB2 := hid (HBL.out.trans (below_two2 wr w.heap.size hsz (.cells #[.int .i64 x0, .int .i64 x1, .int .i64 x2, .int .i64 x3] 40) (.cells #[.int .i64 x0, .int .i64 x1] 47)))
          have HO2 := hid ((own_two HO.out (.cells #[.int .i64 x0, .int .i64 x1, .int .i64 x2, .int .i64 x3] 40) (.cells #[.int .i64 x0, .int .i64 x1] 47)).mono (Nat.le_succ k))
          have HEA : Hid (Ear D (l.take (k + 1))) := by
            show Ear _ _
            rw [HTA.out]
            exact HE.out.same (x := (x0, x1, x2, x3)) HWF.out.1 HWF.out.2.1 HAT.out HH.out hxm
          go_roundw
          case rel => exact ⟨k + 1, D, by omega, by go_num, HO2.out, HEA.out, HB2.out⟩
          case measure => simp [intOf]; omega
    · have HE := hid hear
      have HBL := hid hbel
      have HO := hid hown
      obtain rfl : k = n := by omega
      clear hear hbel hown
      go_wp2_with fail
      go_ret
      refine ⟨⟨w.heap.size, D, rfl, Nat.le_refl _, HO.out, ?_⟩, HBL.out⟩
      have := HE.out
      rw [List.take_of_length_le (by have := HN.out; omega)] at this
      exact this
end PlayC
end Go.Proofs.Ytpnahhpkaegeeaa

/- Contracts: play.Lates. -/
set_option linter.unusedVariables false
namespace Go.Proofs.Ytpnahhpkaegeeaa
open Go.RowKit hiding tok
open SpanM SpanC TaskM PlayM
open RowsO hiding Tk
open Go.Maps
namespace PlayC
open TaskC (tchk tchk_zero tcheck_any)
open NumC (Row)
open RowG
/-- a job that is late, as it is told -/
def lt2 (b : Nat × Nat) : Int × Int := ((b.1 : Int), (b.2 : Int))
abbrev OMp (w : World) (b n : Nat) (D : DU) : Prop := w.ownsMap Try.prog 47 (plainElem Try.prog 3) b n D
theorem map_ne {α : Type} {E : Enc α} {T B b n : Nat} {w : World} {v : Value} {l : List α} {D : DU} (h : Own E T w B v l) (hm : OMp w b n D) : some b ≠ v.ownBlock := by
  obtain ⟨es, cl, hb, _⟩ := hm
  rcases h.2 with ⟨rfl, _⟩ | ⟨g, cap, cur, rfl, _, hg, _⟩
  · simp [Value.ownBlock]
  · intro e
    simp only [Value.ownBlock, Option.some.injEq] at e
    rw [e, hg] at hb
    simp at hb
/-- what a job's lateness hangs on -/
theorem late_iff {P : Pl} {D : DU} {dn : List Pl.Dn} {i k : Nat} (hE : Ear D dn) (h1 : wf64 (i : Int)) (h2 : wf64 (k : Int)) :
    (has D (kL i k) = false → P.told dn i k = false) ∧ (∀ c, has D (kL i k) = true → D.atKey (kL i k) (i64 0) = i64 c → (P.told dn i k = true ↔ c ≤ P.du i k)) := by
  obtain ⟨b1, b2⟩ := hE.2 i k h1 h2
  refine ⟨fun h => ?_, fun c h hc => ?_⟩
  · cases ht : P.told dn i k with
    | false => rfl
    | true =>
      obtain ⟨d, hd, e1, e2, _⟩ := Pl.told_iff.1 ht
      rw [b1.2 ⟨d, hd, e1, e2⟩] at h; simp at h
  · obtain ⟨m, a1, ⟨d, hd, e1, e2, e3⟩, a3⟩ := b2 h
    rw [hc] at a1
    have hcm : c = m := by simpa [i64] using a1
    subst hcm
    rw [Pl.told_iff]
    constructor
    · rintro ⟨d', hd', f1, f2, f3⟩
      have := a3 d' hd' f1 f2
      omega
    · intro hle
      exact ⟨d, hd, e1, e2, by omega⟩
/-- the first k of them that are late -/
def lst (P : Pl) (T : Int) (dn : List Pl.Dn) (k : Nat) : List (Int × Int) := (((P.jobsL T).take k).filter fun b => decide (P.du b.1 b.2 ≤ T) && !P.told dn b.1 b.2).map lt2
theorem lst_all (P : Pl) (T : Int) (dn : List Pl.Dn) : lst P T dn (P.jobsL T).length = (P.lates dn T).map lt2 := by
  unfold lst Pl.lates
  rw [List.take_length]
theorem lst_next (P : Pl) (T : Int) (dn : List Pl.Dn) {k : Nat} (h : k < (P.jobsL T).length) : lst P T dn (k + 1) = if P.du (P.jobsL T)[k].1 (P.jobsL T)[k].2 ≤ T ∧ P.told dn (P.jobsL T)[k].1 (P.jobsL T)[k].2 = false then lst P T dn k ++ [(((P.jobsL T)[k].1 : Int), ((P.jobsL T)[k].2 : Int))] else lst P T dn k := by
  unfold lst
  rw [List.take_succ_eq_append_getElem h, List.filter_append, List.map_append]
  split
  · rename_i hc
    rw [List.filter_cons_of_pos (by simp [hc.1, hc.2])]
    rfl
  · rename_i hc
    rw [List.filter_cons_of_neg (by simpa using hc)]
    simp
theorem lst_len (P : Pl) (T : Int) (dn : List Pl.Dn) (k : Nat) {nj : Nat} (h : nj ≤ 2000) (hn : nj = (P.jobsL T).length) : (lst P T dn k).length ≤ 2000 := by
  unfold lst
  rw [List.length_map]
  refine Nat.le_trans (List.length_filter_le _ _) ?_
  rw [List.length_take]; omega
/-- all of it, within the loop -/
structure LSt (P : Pl) (T : Int) (dn : List Pl.Dn) (w wr : World) (mb nd : Nat) (D : DU) (vj vl : Value) (Z : List (Int × Int)) : Prop where
  bel : Below w.heap.size w wr
  m : OMp wr mb nd D
  j : OwnJ wr w.heap.size vj ((P.jobsL T).map (jb P))
  l : OwnL wr w.heap.size vl Z
abbrev LS (P : Pl) (T : Int) (dn : List Pl.Dn) (w wr : World) (mb nd : Nat) (D : DU) (vj vl : Value) (k : Nat) : Prop := LSt P T dn w wr mb nd D vj vl (lst P T dn k)
theorem LSt.skip {P : Pl} {T : Int} {dn : List Pl.Dn} {w wr : World} {mb nd : Nat} {D : DU} {vj vl : Value} {Z : List (Int × Int)} (h : LSt P T dn w wr mb nd D vj vl Z) (o o' : Obj) : LSt P T dn w ((wr.alloc o).alloc o') mb nd D vj vl Z :=
  ⟨h.bel.trans (below_two2 wr _ h.bel.size o o'), own_two h.m o o', own_alloc (own_alloc h.j o) o', own_alloc (own_alloc h.l o) o'⟩
theorem LSt.app {P : Pl} {T : Int} {dn : List Pl.Dn} {w wr w' : World} {mb nd : Nat} {D : DU} {vj vl vl' : Value} {Z Z' : List (Int × Int)} (h : LSt P T dn w wr mb nd D vj vl Z) (o o' o'' : Obj) (hg : (((wr.alloc o).alloc o').alloc o'').grownBy w' vl.ownBlock) (ho : OwnL w' w.heap.size vl' Z') : LSt P T dn w w' mb nd D vj vl' Z' := by
  have h2 := h.skip o o'
  have h3 : LSt P T dn w (((wr.alloc o).alloc o').alloc o'') mb nd D vj vl Z := ⟨h2.bel.alloc h2.bel.size _, h2.m.alloc _, own_alloc h2.j _, own_alloc h2.l _⟩
  exact ⟨h3.bel.grown hg h3.bel.size (fun k hk => own_ge h3.l k hk), h3.m.kept hg (map_ne h3.l h3.m), h3.j.kept hg (own_apart h3.j h3.l (by decide)), ho⟩
set_option maxRecDepth 20000 in
set_option maxHeartbeats 6400000 in
theorem lates_ok (P : Pl) (T : Int) (a b c : Option Addr) (ca cb cc : Nat) (dn : List Pl.Dn) (w : World) (hr : Tks w a P.l) (hf : Row w b P.f) (hd : Rd ED w c dn) (hw : ∀ d ∈ dn, wf64 d.1 ∧ wf64 d.2.1 ∧ wf64 d.2.2.2)
    (h1 : tchk P.l = 0) (h3 : fstE P.l.length P.f = 0) (h5 : P.untE T = 0) (h6 : dn.length ≤ 10000) (hP : P.Ok) (hrt : (P.jobsL T).length ≤ 2000 ∧ 0 ≤ T ∧ T ≤ 20000) :
    Calls Try.prog 22 #[.slice a P.l.length ca, .slice b P.f.length cb, .slice c dn.length cc, .int .i64 T] w fun e w' => (∃ vl, e = .returned (.tuple #[vl, .int .i64 0]) ∧ OwnL w' w.heap.size vl ((P.lates dn T).map lt2)) ∧ Below w.heap.size w w' := by
  obtain ⟨i0, hi, hz0, hz1, hz2⟩ := info_parts infoL
  have Hi := hid hi
  have Hz0 := hid hz0
  have Hz1 := hid hz1
  have Hz2 := hid hz2
  clear hi hz0 hz1 hz2
  have hl16 := (tchk_zero h1).1
  have hfk := (fstE_zero h3).2
  have HC1 := hid (fun W (h : Below w.heap.size w W) => tcheck_any a ca P.l W (hr.below h (Nat.le_refl _)))
  have HC3 := hid (fun W (h : Below w.heap.size w W) => first_any a b ca cb P.l.length P.f W (Row.below hf h (Nat.le_refl _)) hl16)
  have HC4 := hid (fun W (h : Below w.heap.size w W) => until_any P hP a b ca cb T W (hr.below h (Nat.le_refl _)) (Row.below hf h (Nat.le_refl _)) hl16 hfk)
  have HC5 := hid (fun W (h : Below w.heap.size w W) => jobsOf_any P hP a b ca cb T W (hr.below h (Nat.le_refl _)) (Row.below hf h (Nat.le_refl _)) hl16 hfk hrt.2.1 hrt.2.2)
  have HC9 := hid (fun W (h : Below w.heap.size w W) => earliest_any c dn.length cc dn W (hd.below h (Nat.le_refl _)) rfl (by omega) hw)
  rw [h1] at HC1
  rw [h3] at HC3
  rw [h5] at HC4
  have hdl : ¬ (10000 : Int) < (dn.length : Int) := by omega
  have HP := hid hP
  have HF := hid hrt.1
  have HL16 := hid hl16
  have hT := hrt.2
  clear hr hf hd hw h1 h3 h5 hP hrt hl16 hfk
  generalize hdn : dn.length = nd at *
  go_enter Try.func22, Try.ntmps22
  go_wp2_with (first | (go_at_call 41; refine (HC1.out _ (by go_grown)).mono ?_; rintro e w1 ⟨rfl, hb1⟩; have B1 := hid (bel_of (by go_grown) hb1); clear hb1) | (go_at_call 43; refine (HC3.out _ B1.out).mono ?_; rintro e w3 ⟨rfl, hb3⟩; have B3 := hid (bel_of B1.out hb3); clear hb3) | (go_at_call 44; refine (HC4.out _ B3.out).mono ?_; rintro e w4 ⟨rfl, hb4⟩; have B4 := hid (bel_of B3.out hb4); clear hb4) | (go_at_call 55; refine (HC9.out _ B4.out).mono ?_; rintro e w5 ⟨⟨mb, D, rfl, hmb, hom, hear⟩, hb5⟩; have B5 := hid (bel_of B4.out hb5); have HOM := hid hom; have HEA := hid hear; have HMB := hid (Nat.le_trans B4.out.size hmb); clear hb5 hom hear hmb) | (go_at_call 45; refine (HC5.out _ B5.out).mono ?_; rintro e w6 ⟨⟨v6, rfl, ho6⟩, hb6⟩; have B6 := hid (bel_of B5.out hb6); have HO6 := hid (ho6.base (show w.heap.size ≤ w5.heap.size from B5.out.size)); have HOM6 := hid (HOM.out.kept (grown_of_below hb6 (Nat.le_refl _) none) (by simp)); obtain ⟨a6, c6, hv6⟩ := ho6.slice; subst hv6; clear hb6 ho6))
  obtain ⟨nj, hnj⟩ : ∃ nj, nj = (P.jobsL T).length := ⟨_, rfl⟩
  have HNJ := hid hnj
  have hnj2 : nj ≤ 2000 := by have := HF.out; omega
  have e6 : ((P.jobsL T).map (jb P)).length = nj := by rw [List.length_map, hnj]
  simp only [← hnj]
  rw [e6] at HO6
  clear e6 hnj
  go_loopw [14, 48] (fun vl vk wr => ∃ (k : Nat), k ≤ nj ∧ vk = .int .i64 k ∧ Hid (LSt P T dn w wr mb nd D (.slice a6 nj c6) vl (lst P T dn k))) (fun _ vk _ => nj - (intOf vk).toNat)
  case atStart => exact ⟨0, by omega, rfl, (⟨B6.out, HOM6.out, HO6.out, Own.nil _ _ _ _⟩ : LSt P T dn w _ mb nd D _ _ (lst P T dn 0))⟩
  case round =>
    obtain ⟨k, hk, rfl, HS⟩ := hrel
    by_cases hlt : k < nj
    · have hkl : k < (P.jobsL T).length := by have := HNJ.out; omega
      have hkl2 : k < ((P.jobsL T).map (jb P)).length := by rw [List.length_map]; exact hkl
      have hmem := (Pl.mem_jobsL HP.out (T := T) (i := (P.jobsL T)[k].1) (k := (P.jobsL T)[k].2)).1 (List.getElem_mem hkl)
      have HNX := hid (lst_next P T dn hkl)
      obtain ⟨g6, cc6, hv6, _, _, _, _⟩ := HS.out.j.pos (by omega)
      have hcl : ∀ j, j < 7 → wr.cell? ⟨g6, k * 7 + j, none⟩ = (EJ.enc (jb P (P.jobsL T)[k]))[j]? := fun j hj => by
        have h := HS.out.j
        rw [hv6] at h
        have := h.cell k j hkl2 hj
        rw [List.getElem_map] at this
        exact this
      simp only [Value.slice.injEq] at hv6
      obtain ⟨h61, h62, h63⟩ := hv6
      clear h62
      subst h61
      subst h63
      generalize (P.jobsL T)[k] = bb at hmem HNX hcl
      obtain ⟨i, q⟩ := bb
      obtain ⟨hm1, hm2⟩ := hmem
      simp only at hm1 hm2
      have hcome := (HP.out.come hm1 q).1
      have hdu := HP.out.at hm1
      have hi16 : i < 16 := by have := HL16.out; omega
      have hq2 : q ≤ 20000 := by omega
      have wi : wf64 (i : Int) := by unfold wf64; omega
      have wq : wf64 (q : Int) := by unfold wf64; omega
      have HK := hid (keyL (wf_of wi) (wf_of wq))
      have HLI := hid (late_iff (P := P) HEA.out wi wq)
      have a0 := hcl 0 (by decide); have a1 := hcl 1 (by decide); have a2 := hcl 2 (by decide); have a3 := hcl 3 (by decide); have a4 := hcl 4 (by decide); have a5 := hcl 5 (by decide); have a6' := hcl 6 (by decide)
      simp [EJ, jb] at a0 a1 a2 a3 a4 a5 a6'
      have HDU : Hid (P.du i q = P.cm i q + (P.tk i).2.2) := rfl
      have hdb : 0 ≤ P.du i q ∧ P.du i q ≤ 40000 := by have e := HDU.out; unfold TaskM.tok at hdu; omega
      have i1 : (k : Int) < (nj : Int) := by omega
      have HZL := hid (lst_len P T dn k (show nj ≤ 2000 from hnj2) HNJ.out)
      obtain ⟨al, cl, hvl⟩ := HS.out.l.slice
      subst hvl
      generalize hcmv : P.cm i q = cmv at *
      generalize hduv : P.du i q = duv at *
      generalize hlov : (P.tk i).1 = lo at *
      generalize hZ : lst P T dn k = Z at *
      simp only at HNX
      clear hcl hm1 hm2 hcome hdu hcmv hduv hlov
      by_cases hd1 : duv ≤ T
      · cases hh : has D (kL i q) with
        | false =>
          have LATE : duv ≤ T ∧ P.told dn i q = false := ⟨hd1, HLI.out.1 hh⟩
          go_wp2_with (first | (at_lookup; refine wpList_lookup_own_ok_int _ rfl _ _ 93 rfl 47 3 .i64 lawL Try.underlying93 Try.underlying3 (zeroI _) mb nd D rfl (own_two HS.out.m _ _) _ _ rfl HK.out ?_; intro c9 hat hwc; clear hat hwc) | (at_builtin; refine wpList_append_own _ rfl _ _ 42 rfl w.heap.size 47 i0 (.agg #[.int .i64 0, .int .i64 0]) 2 16 Try.underlying42 Hi.out Hz0.out Hz1.out Hz2.out rfl (by decide) _ Z.length (EL.flat Z) rfl ?qc0 ⟨wr.heap.size + 1 + 1, 0, none⟩ 1 1 (EL.enc ((i : Int), (q : Int))) ?qcx ?qc1 ?qc2 ?qc3 ?qc4 ?qc5 ?qc6 ?_))
          case qc0 => exact World.ownsRow.alloc (World.ownsRow.alloc (World.ownsRow.alloc HS.out.l _) _) _
          case qcx => rfl
          case qc1 => rfl
          case qc2 =>
            intro j z hj
            match j, hj with
            | 0, hj => simp [EL] at hj; subst hj; exact World.cell?_alloc_at _ _ _ _ (by simp)
            | 1, hj => simp [EL] at hj; subst hj; exact World.cell?_alloc_at _ _ _ _ (by simp)
            | j + 2, hj => simp [EL] at hj
          case qc3 => exact EL.h1 _
          case qc4 => have := HZL.out; unfold maxLen; omega
          case qc5 => have := HZL.out; omega
          case qc6 => have := HS.out.bel.size; simp; omega
          intro v7 w7 hown hgrow hnil
          have ho7 : OwnL w7 w.heap.size v7 (Z ++ [((i : Int), (q : Int))]) := own_snoc hown rfl rfl
          have HS7 := hid (HS.out.app (.cells #[.int .i64 i, .int .i64 q, .int .i64 cmv, .int .i64 0, .int .i64 duv, .int .i64 lo, .int .i64 0] 83) (.cells #[.int .i64 i, .int .i64 q] 47) (.cells #[.int .i64 i, .int .i64 q] 47) hgrow ho7)
          clear hown hgrow hnil ho7
          go_wp2_with fail
          go_roundw
          case rel => exact ⟨k + 1, by omega, by go_num, (by rw [HNX.out, if_pos LATE]; exact HS7.out : LSt P T dn w _ mb nd D _ _ (lst P T dn (k + 1)))⟩
          case measure => simp [intOf]; omega
        | true =>
          obtain ⟨cm9, hcm9, _, _⟩ := (HEA.out.2 i q wi wq).2 hh
          have HCM := hid hcm9
          have HLJ := hid (HLI.out.2 cm9 hh hcm9)
          clear hcm9
          by_cases hc9 : duv < cm9
          · have LATE : duv ≤ T ∧ P.told dn i q = false := ⟨hd1, by cases ht : P.told dn i q with | false => rfl | true => have := HLJ.out.1 ht; omega⟩
            go_wp2_with (first | (at_lookup; refine wpList_lookup_own_ok_int _ rfl _ _ 93 rfl 47 3 .i64 lawL Try.underlying93 Try.underlying3 (zeroI _) mb nd D rfl (own_two HS.out.m _ _) _ _ rfl HK.out ?_; intro c9 hat hwc; have hcm : c9 = cm9 := (by have := hat.symm.trans HCM.out; simpa using this); subst hcm; clear hat hwc) | (at_builtin; refine wpList_append_own _ rfl _ _ 42 rfl w.heap.size 47 i0 (.agg #[.int .i64 0, .int .i64 0]) 2 16 Try.underlying42 Hi.out Hz0.out Hz1.out Hz2.out rfl (by decide) _ Z.length (EL.flat Z) rfl ?qc0 ⟨wr.heap.size + 1 + 1, 0, none⟩ 1 1 (EL.enc ((i : Int), (q : Int))) ?qcx ?qc1 ?qc2 ?qc3 ?qc4 ?qc5 ?qc6 ?_))
            case qc0 => exact World.ownsRow.alloc (World.ownsRow.alloc (World.ownsRow.alloc HS.out.l _) _) _
            case qcx => rfl
            case qc1 => rfl
            case qc2 =>
              intro j z hj
              match j, hj with
              | 0, hj => simp [EL] at hj; subst hj; exact World.cell?_alloc_at _ _ _ _ (by simp)
              | 1, hj => simp [EL] at hj; subst hj; exact World.cell?_alloc_at _ _ _ _ (by simp)
              | j + 2, hj => simp [EL] at hj
            case qc3 => exact EL.h1 _
            case qc4 => have := HZL.out; unfold maxLen; omega
            case qc5 => have := HZL.out; omega
            case qc6 => have := HS.out.bel.size; simp; omega
            intro v7 w7 hown hgrow hnil
            have ho7 : OwnL w7 w.heap.size v7 (Z ++ [((i : Int), (q : Int))]) := own_snoc hown rfl rfl
            have HS7 := hid (HS.out.app (.cells #[.int .i64 i, .int .i64 q, .int .i64 cmv, .int .i64 0, .int .i64 duv, .int .i64 lo, .int .i64 0] 83) (.cells #[.int .i64 i, .int .i64 q] 47) (.cells #[.int .i64 i, .int .i64 q] 47) hgrow ho7)
            clear hown hgrow hnil ho7
            go_wp2_with fail
            go_roundw
            case rel => exact ⟨k + 1, by omega, by go_num, (by rw [HNX.out, if_pos LATE]; exact HS7.out : LSt P T dn w _ mb nd D _ _ (lst P T dn (k + 1)))⟩
            case measure => simp [intOf]; omega
          · have LATE : ¬ (duv ≤ T ∧ P.told dn i q = false) := fun h => by have := HLJ.out.2 (by omega); rw [h.2] at this; simp at this
            go_wp2_with (first | (at_lookup; refine wpList_lookup_own_ok_int _ rfl _ _ 93 rfl 47 3 .i64 lawL Try.underlying93 Try.underlying3 (zeroI _) mb nd D rfl (own_two HS.out.m _ _) _ _ rfl HK.out ?_; intro c9 hat hwc; have hcm : c9 = cm9 := (by have := hat.symm.trans HCM.out; simpa using this); subst hcm; clear hat hwc))
            have HS7 := hid (HS.out.skip (.cells #[.int .i64 i, .int .i64 q, .int .i64 cmv, .int .i64 0, .int .i64 duv, .int .i64 lo, .int .i64 0] 83) (.cells #[.int .i64 i, .int .i64 q] 47))
            go_roundw
            case rel => exact ⟨k + 1, by omega, by go_num, (by rw [HNX.out, if_neg LATE]; exact HS7.out : LSt P T dn w _ mb nd D _ _ (lst P T dn (k + 1)))⟩
            case measure => simp [intOf]; omega
      · have LATE : ¬ (duv ≤ T ∧ P.told dn i q = false) := fun h => hd1 h.1
        go_wp2_with (first | (at_lookup; refine wpList_lookup_own_ok_int _ rfl _ _ 93 rfl 47 3 .i64 lawL Try.underlying93 Try.underlying3 (zeroI _) mb nd D rfl (own_two HS.out.m _ _) _ _ rfl HK.out ?_; intro c9 hat hwc; clear hat hwc))
        have HS7 := hid (HS.out.skip (.cells #[.int .i64 i, .int .i64 q, .int .i64 cmv, .int .i64 0, .int .i64 duv, .int .i64 lo, .int .i64 0] 83) (.cells #[.int .i64 i, .int .i64 q] 47))
        go_roundw
        case rel => exact ⟨k + 1, by omega, by go_num, (by rw [HNX.out, if_neg LATE]; exact HS7.out : LSt P T dn w _ mb nd D _ _ (lst P T dn (k + 1)))⟩
        case measure => simp [intOf]; omega
    · obtain rfl : k = nj := by omega
      obtain ⟨al, cl, hvl⟩ := HS.out.l.slice
      subst hvl
      have HE := hid (show lst P T dn k = (P.lates dn T).map lt2 by rw [HNJ.out]; exact lst_all P T dn)
      generalize lst P T dn k = Z at *
      go_wp2_with fail
      go_ret2
      refine ⟨⟨_, rfl, ?_⟩, HS.out.bel⟩
      rw [← HE.out]
      exact HS.out.l
end PlayC
end Go.Proofs.Ytpnahhpkaegeeaa

/- Contracts: play.Lates whole (written by gen_lt.py). -/
set_option linter.unusedVariables false
namespace Go.Proofs.Ytpnahhpkaegeeaa
open Go.RowKit hiding tok
open SpanM SpanC TaskM PlayM
open RowsO hiding Tk
namespace PlayC
open TaskC (tchk tchk_zero tcheck_any)
open NumC (Row)
open RowG
def ltE (P : Pl) (T : Int) (nd : Nat) : Int := if tchk P.l = 0 then (if fstE P.l.length P.f = 0 then (if P.untE T = 0 then (if 10000 < nd then 2 else 0) else P.untE T) else fstE P.l.length P.f) else tchk P.l
def ltD (P : Pl) (T : Int) (dn : List Pl.Dn) : List (Int × Int) := if ltE P T dn.length = 0 then (P.lates dn T).map lt2 else []
theorem bare_of {P : Pl} (h1 : tchk P.l = 0) (h3 : fstE P.l.length P.f = 0) : (Pl.bare P.l P.f).Ok := by
  obtain ⟨a1, a2⟩ := tchk_zero h1
  obtain ⟨c1, c2⟩ := fstE_zero h3
  exact Pl.bare_ok a2 c1 fun x hx => (c2 x hx).1
theorem unt_of {P : Pl} {T : Int} (h : P.untE T = 0) : (P.jobsL T).length ≤ 2000 ∧ 0 ≤ T ∧ T ≤ 20000 := by
  unfold Pl.untE Pl.untG at h
  split at h
  · rename_i hT
    split at h
    · simp at h
    · exact ⟨by omega, hT.1, hT.2⟩
  · simp at h
variable (P : Pl) (T : Int) (a b c : Option Addr) (ca cb cc : Nat) (dn : List Pl.Dn) (w : World)
set_option maxRecDepth 20000 in
set_option maxHeartbeats 1600000 in
theorem lates_e1 (hr : Tks w a P.l) (hf : Row w b P.f) (h1 : tchk P.l ≠ 0) :
    Calls Try.prog 22 #[.slice a P.l.length ca, .slice b P.f.length cb, .slice c dn.length cc, .int .i64 T] w fun e w' => e = .returned (.tuple #[.slice none 0 0, .int .i64 (tchk P.l)]) ∧ Below w.heap.size w w' := by
  have HC1 := hid (fun W (h : Below w.heap.size w W) => tcheck_any a ca P.l W (hr.below h (Nat.le_refl _)))
  generalize tchk P.l = z at *
  have hn : (z != 0) = true := by simpa using h1
  clear hr hf
  generalize dn.length = nd at *
  go_enter Try.func22, Try.ntmps22
  go_wp2_with (first | (go_at_call 41; refine (HC1.out _ (by go_grown)).mono ?_; rintro e w1 ⟨rfl, hb1⟩; have B1 := hid (bel_of (by go_grown) hb1); clear hb1))
  go_ret2
  exact ⟨rfl, B1.out⟩
set_option maxRecDepth 20000 in
set_option maxHeartbeats 1600000 in
theorem lates_e2 (hr : Tks w a P.l) (hf : Row w b P.f) (h1 : tchk P.l = 0) (h3 : fstE P.l.length P.f ≠ 0) :
    Calls Try.prog 22 #[.slice a P.l.length ca, .slice b P.f.length cb, .slice c dn.length cc, .int .i64 T] w fun e w' => e = .returned (.tuple #[.slice none 0 0, .int .i64 (fstE P.l.length P.f)]) ∧ Below w.heap.size w w' := by
  have HC1 := hid (fun W (h : Below w.heap.size w W) => tcheck_any a ca P.l W (hr.below h (Nat.le_refl _)))
  have hl16 : P.l.length ≤ 16 := (tchk_zero h1).1
  have HC3 := hid (fun W (h : Below w.heap.size w W) => first_any a b ca cb P.l.length P.f W (Row.below hf h (Nat.le_refl _)) hl16)
  rw [h1] at HC1
  generalize fstE P.l.length P.f = z at *
  have hn : (z != 0) = true := by simpa using h3
  clear hr hf
  generalize dn.length = nd at *
  go_enter Try.func22, Try.ntmps22
  go_wp2_with (first | (go_at_call 41; refine (HC1.out _ (by go_grown)).mono ?_; rintro e w1 ⟨rfl, hb1⟩; have B1 := hid (bel_of (by go_grown) hb1); clear hb1) | (go_at_call 43; refine (HC3.out _ B1.out).mono ?_; rintro e w3 ⟨rfl, hb3⟩; have B3 := hid (bel_of B1.out hb3); clear hb3))
  go_ret2
  exact ⟨rfl, B3.out⟩
set_option maxRecDepth 20000 in
set_option maxHeartbeats 1600000 in
theorem lates_e3 (hr : Tks w a P.l) (hf : Row w b P.f) (h1 : tchk P.l = 0) (h3 : fstE P.l.length P.f = 0) (h5 : P.untE T ≠ 0) :
    Calls Try.prog 22 #[.slice a P.l.length ca, .slice b P.f.length cb, .slice c dn.length cc, .int .i64 T] w fun e w' => e = .returned (.tuple #[.slice none 0 0, .int .i64 (P.untE T)]) ∧ Below w.heap.size w w' := by
  have HC1 := hid (fun W (h : Below w.heap.size w W) => tcheck_any a ca P.l W (hr.below h (Nat.le_refl _)))
  have hl16 : P.l.length ≤ 16 := (tchk_zero h1).1
  have HC3 := hid (fun W (h : Below w.heap.size w W) => first_any a b ca cb P.l.length P.f W (Row.below hf h (Nat.le_refl _)) hl16)
  rw [h1] at HC1
  have HC4 : Hid (∀ W, Below w.heap.size w W → Calls Try.prog 44 #[.slice a P.l.length ca, .slice b P.f.length cb, .int .i64 T] W fun e w' => e = .returned (.int .i64 (P.untE T)) ∧ Below W.heap.size W w') := fun W h => until_any (Pl.bare P.l P.f) (bare_of h1 h3) a b ca cb T W (hr.below h (Nat.le_refl _)) (Row.below hf h (Nat.le_refl _)) hl16 (fstE_zero h3).2
  rw [h3] at HC3
  generalize P.untE T = z at *
  have hn : (z != 0) = true := by simpa using h5
  clear hr hf
  generalize dn.length = nd at *
  go_enter Try.func22, Try.ntmps22
  go_wp2_with (first | (go_at_call 41; refine (HC1.out _ (by go_grown)).mono ?_; rintro e w1 ⟨rfl, hb1⟩; have B1 := hid (bel_of (by go_grown) hb1); clear hb1) | (go_at_call 43; refine (HC3.out _ B1.out).mono ?_; rintro e w3 ⟨rfl, hb3⟩; have B3 := hid (bel_of B1.out hb3); clear hb3) | (go_at_call 44; refine (HC4.out _ B3.out).mono ?_; rintro e w4 ⟨rfl, hb4⟩; have B4 := hid (bel_of B3.out hb4); clear hb4))
  go_ret2
  exact ⟨rfl, B4.out⟩
set_option maxRecDepth 20000 in
set_option maxHeartbeats 1600000 in
theorem lates_e4 (hr : Tks w a P.l) (hf : Row w b P.f) (h1 : tchk P.l = 0) (h3 : fstE P.l.length P.f = 0) (h5 : P.untE T = 0) (h6 : 10000 < dn.length) :
    Calls Try.prog 22 #[.slice a P.l.length ca, .slice b P.f.length cb, .slice c dn.length cc, .int .i64 T] w fun e w' => e = .returned (.tuple #[.slice none 0 0, .int .i64 (2)]) ∧ Below w.heap.size w w' := by
  have HC1 := hid (fun W (h : Below w.heap.size w W) => tcheck_any a ca P.l W (hr.below h (Nat.le_refl _)))
  have hl16 : P.l.length ≤ 16 := (tchk_zero h1).1
  have HC3 := hid (fun W (h : Below w.heap.size w W) => first_any a b ca cb P.l.length P.f W (Row.below hf h (Nat.le_refl _)) hl16)
  rw [h1] at HC1
  have HC4 : Hid (∀ W, Below w.heap.size w W → Calls Try.prog 44 #[.slice a P.l.length ca, .slice b P.f.length cb, .int .i64 T] W fun e w' => e = .returned (.int .i64 (P.untE T)) ∧ Below W.heap.size W w') := fun W h => until_any (Pl.bare P.l P.f) (bare_of h1 h3) a b ca cb T W (hr.below h (Nat.le_refl _)) (Row.below hf h (Nat.le_refl _)) hl16 (fstE_zero h3).2
  rw [h3] at HC3
  rw [h5] at HC4
  have hn : (10000 : Int) < (dn.length : Int) := by omega
  clear hr hf
  generalize dn.length = nd at *
  go_enter Try.func22, Try.ntmps22
  go_wp2_with (first | (go_at_call 41; refine (HC1.out _ (by go_grown)).mono ?_; rintro e w1 ⟨rfl, hb1⟩; have B1 := hid (bel_of (by go_grown) hb1); clear hb1) | (go_at_call 43; refine (HC3.out _ B1.out).mono ?_; rintro e w3 ⟨rfl, hb3⟩; have B3 := hid (bel_of B1.out hb3); clear hb3) | (go_at_call 44; refine (HC4.out _ B3.out).mono ?_; rintro e w4 ⟨rfl, hb4⟩; have B4 := hid (bel_of B3.out hb4); clear hb4))
  go_ret2
  exact ⟨rfl, B4.out⟩
/-- Lates, whole -/
theorem lates_any (hr : Tks w a P.l) (hf : Row w b P.f) (hd : Rd ED w c dn) (hw : ∀ d ∈ dn, wf64 d.1 ∧ wf64 d.2.1 ∧ wf64 d.2.2.2) :
    Calls Try.prog 22 #[.slice a P.l.length ca, .slice b P.f.length cb, .slice c dn.length cc, .int .i64 T] w fun e w' => (∃ vl, e = .returned (.tuple #[vl, .int .i64 (ltE P T dn.length)]) ∧ OwnL w' w.heap.size vl (ltD P T dn)) ∧ Below w.heap.size w w' := by
  have hnil : ∀ w', OwnL w' w.heap.size (.slice none 0 0) [] := fun w' => Own.nil _ _ _ _
  unfold ltD ltE
  by_cases h1 : tchk P.l = 0
  · simp only [if_pos h1]
    by_cases h3 : fstE P.l.length P.f = 0
    · simp only [if_pos h3]
      by_cases h5 : P.untE T = 0
      · simp only [if_pos h5]
        by_cases h6 : 10000 < dn.length
        · simp only [if_pos h6]
          exact (lates_e4 P T a b c ca cb cc dn w hr hf h1 h3 h5 h6).mono fun e w' h => ⟨⟨_, h.1, hnil _⟩, h.2⟩
        · simp only [if_neg h6]
          exact lates_ok (Pl.bare P.l P.f) T a b c ca cb cc dn w hr hf hd hw h1 h3 h5 (by omega) (bare_of h1 h3) (unt_of h5)
      · simp only [if_neg h5]
        exact (lates_e3 P T a b c ca cb cc dn w hr hf h1 h3 h5).mono fun e w' h => ⟨⟨_, h.1, hnil _⟩, h.2⟩
    · simp only [if_neg h3]
      exact (lates_e2 P T a b c ca cb cc dn w hr hf h1 h3).mono fun e w' h => ⟨⟨_, h.1, hnil _⟩, h.2⟩
  · simp only [if_neg h1]
    exact (lates_e1 P T a b c ca cb cc dn w hr hf h1).mono fun e w' h => ⟨⟨_, h.1, hnil _⟩, h.2⟩
end PlayC
end Go.Proofs.Ytpnahhpkaegeeaa

/- Contracts: slices.Equal of done jobs. -/
set_option linter.unusedVariables false
namespace Go.Proofs.Ytpnahhpkaegeeaa
open Go.RowKit hiding tok
open Go.Shelf Go.Sort
open SpanM SpanC PlayM
namespace PlayC
open RowG
theorem neqD (x0 x1 x2 x3 y0 y1 y2 y3 : Int) (w : World) : (binOp .neq 40 (.agg #[.int .i64 x0, .int .i64 x1, .int .i64 x2, .int .i64 x3]) (.agg #[.int .i64 y0, .int .i64 y1, .int .i64 y2, .int .i64 y3])).run Try.prog w = .ok (.bool (decide (¬ (x0 = y0 ∧ x1 = y1 ∧ x2 = y2 ∧ x3 = y3)))) w := by
  have u3 := Try.underlying3
  have a3 := Try.isAgg3
  have z3 := Try.sizeOf3
  have hS : Try.prog.underlying 40 = some (.struct (Try.prog.fieldsOf 40)) := by kernel_rfl
  have hp : Try.prog.stoodInHeld 40 = false := by kernel_rfl
  rw [run_neq_struct, show (10000 : Nat) = 9999 + 1 from rfl, run_equalIn_agg w 9999 40 _ _ hS hp]
  simp only [Program.fieldsOf, Try.underlying40]
  go_simp
  by_cases h1 : x0 = y0 <;> by_cases h2 : x1 = y1 <;> by_cases h3 : x2 = y2 <;> by_cases h4 : x3 = y3 <;> simp [h1, h2, h3, h4]
theorem guardD : Try.prog.eqGuardType Try.prog.depth 40 = false := by kernel_rfl
theorem equal_len (a b : Option Addr) (n m ca cb : Nat) (w : World) (h : n ≠ m) :
    Calls Try.prog 21 #[.slice a n ca, .slice b m cb] w fun e w' => e = .returned (.bool false) ∧ Below w.heap.size w w' := by
  have hn : ((n : Int) != (m : Int)) = true := by simp; omega
  go_enter Try.func21, Try.ntmps21
  go_wp2_with fail
  go_ret
  exact ⟨rfl, Below.refl _ _⟩
set_option maxRecDepth 20000 in
set_option maxHeartbeats 1600000 in
theorem equal_rd (a b : Option Addr) (n ca cb : Nat) (la lb : List Pl.Dn) (w : World) (ha : Rd ED w a la) (hb : Rd ED w b lb) (hn : n = la.length) (hm : n = lb.length) (hl : n ≤ 100000) :
    Calls Try.prog 21 #[.slice a n ca, .slice b n cb] w fun e w' => e = .returned (.bool (decide (la = lb))) ∧ Below w.heap.size w w' := by
  have hne : ((n : Int) != (n : Int)) = false := by simp
  have HA := hid ha
  have HB := hid hb
  have HN := hid hn
  have HM := hid hm
  have mixed := mixd
  clear ha hb hn hm
  go_enter Try.func21, Try.ntmps21
  go_wp2_with fail
  go_loopw [13] (fun vk wr => ∃ k : Nat, k ≤ n ∧ vk = .int .i64 k ∧ Hid (la.take k = lb.take k) ∧ Below w.heap.size w wr) (fun vk _ => n - (intOf vk).toNat)
  case atStart => exact ⟨0, by omega, rfl, (by rfl : la.take 0 = lb.take 0), Below.refl _ _⟩
  case round =>
    obtain ⟨k, hk, rfl, HK, hbel⟩ := hrel
    have HBL := hid hbel
    by_cases hlt : k < n
    · obtain ⟨p, off, hpa, hca⟩ := (HA.out.below hbel (Nat.le_refl _)).at k (by have := HN.out; omega)
      obtain ⟨q, off2, hqb, hcb⟩ := (HB.out.below hbel (Nat.le_refl _)).at k (by have := HM.out; omega)
      subst hpa
      subst hqb
      have hta : la.take (k + 1) = la.take k ++ [la[k]'(by have := HN.out; omega)] := List.take_succ_eq_append_getElem _
      have htb : lb.take (k + 1) = lb.take k ++ [lb[k]'(by have := HM.out; omega)] := List.take_succ_eq_append_getElem _
      generalize la[k]'(by have := HN.out; omega) = x at hca hta
      generalize lb[k]'(by have := HM.out; omega) = y at hcb htb
      obtain ⟨x0, x1, x2, x3⟩ := x
      obtain ⟨y0, y1, y2, y3⟩ := y
      have a0 := hca 0 (by decide); have a1 := hca 1 (by decide); have a2 := hca 2 (by decide); have a3 := hca 3 (by decide)
      have b0 := hcb 0 (by decide); have b1 := hcb 1 (by decide); have b2 := hcb 2 (by decide); have b3 := hcb 3 (by decide)
      simp [ED] at a0 a1 a2 a3 b0 b1 b2 b3
      have HTA := hid hta
      have HTB := hid htb
      have i1 : (k : Int) < (n : Int) := by omega
      clear hca hcb hta htb hbel
      have hnq := fun W => neqD x0 x1 x2 x3 y0 y1 y2 y3 W
      have hgd := guardD
      by_cases he : x0 = y0 ∧ x1 = y1 ∧ x2 = y2 ∧ x3 = y3
      · have hd : decide (¬ (x0 = y0 ∧ x1 = y1 ∧ x2 = y2 ∧ x3 = y3)) = false := by simp [he]
        rw [hd] at hnq
        have HE := hid he
        clear he hd
        go_wp2_with fail
        go_quiet (fail)
        go_wp2_with fail
        go_roundw
        case rel =>
          obtain ⟨e0, e1, e2, e3⟩ := HE.out
          exact ⟨k + 1, by omega, by go_num, (by rw [HTA.out, HTB.out, HK.out, e0, e1, e2, e3] : la.take (k + 1) = lb.take (k + 1)), below_drewN HBL.out _⟩
        case measure => simp [intOf]; omega
      · have hd : decide (¬ (x0 = y0 ∧ x1 = y1 ∧ x2 = y2 ∧ x3 = y3)) = true := by simp [he]
        rw [hd] at hnq
        have HE := hid he
        clear he hd
        go_wp2_with fail
        go_quiet (fail)
        go_wp2_with fail
        go_ret
        refine ⟨?_, below_drewN HBL.out _⟩
        have : la ≠ lb := fun e => by
          have h1 := HTA.out
          rw [e, HTB.out] at h1
          simp at h1
          exact HE.out ⟨h1.1.symm, h1.2.1.symm, h1.2.2.1.symm, h1.2.2.2.symm⟩
        rw [decide_eq_false this]; rfl
    · have HE : Hid (la = lb) := by
        have h := HK.out
        rw [List.take_of_length_le (by have := HN.out; omega), List.take_of_length_le (by have := HM.out; omega)] at h
        exact h
      go_wp2_with fail
      go_ret
      exact ⟨by rw [decide_eq_true HE.out]; rfl, HBL.out⟩
/-- are two rows the same? -/
theorem equal_any (a b : Option Addr) (ca cb : Nat) (la lb : List Pl.Dn) (w : World) (ha : Rd ED w a la) (hb : Rd ED w b lb) (hl : la.length ≤ 100000) :
    Calls Try.prog 21 #[.slice a la.length ca, .slice b lb.length cb] w fun e w' => e = .returned (.bool (decide (la = lb))) ∧ Below w.heap.size w w' := by
  by_cases h : la.length = lb.length
  · rw [← h]
    exact equal_rd a b _ ca cb la lb w ha hb rfl h hl
  · rw [decide_eq_false (fun e => h (by rw [e]))]
    exact equal_len a b _ _ ca cb w h
end PlayC
end Go.Proofs.Ytpnahhpkaegeeaa

/- A play that is known: one job in two times of four. -/
set_option linter.unusedVariables false
namespace Go.Proofs.Ytpnahhpkaegeeaa
open Go.RowKit hiding tok
open Go.Shelf Go.Sort
open SpanM SpanC TaskM PlayM
namespace PlayC
open RowG
def PL : Pl := ⟨[(2, 8, 8)], [1], 2, [(1, 2)], 1⟩
theorem PL_ok : PL.Ok := by
  refine ⟨fun x hx => ?_, rfl, fun x hx => ?_, by decide, by decide⟩
  · simp [PL] at hx; subst hx; unfold tok; decide
  · simp [PL] at hx; omega
theorem PL_cm (k : Nat) : PL.cm 0 k = 1 + (k : Int) * 8 := rfl
theorem PL_on (t : Nat) : PL.on t = decide (t % 2 = 1) := by
  unfold Pl.on PlayM.inS PL
  show mem [(1, 2)] ((t : Int) % 2) = _
  have h : (t : Int) % 2 = 0 ∨ (t : Int) % 2 = 1 := by omega
  rcases h with h | h
  · rw [h, decide_eq_false (by omega)]; decide
  · rw [h, decide_eq_true (by omega)]; decide
theorem PL_pn {L : Nat → Nat → Int} {t i k : Nat} (ht : t < 9) : PL.Pn L t i k ↔ (i = 0 ∧ k = 0 ∧ 1 ≤ t ∧ 0 < L 0 0) := by
  unfold Pl.Pn
  have hl : PL.l.length = 1 := rfl
  rw [hl]
  constructor
  · rintro ⟨h1, h2, h3⟩
    obtain rfl : i = 0 := by omega
    rw [PL_cm] at h2
    obtain rfl : k = 0 := by omega
    exact ⟨rfl, rfl, by omega, h3⟩
  · rintro ⟨rfl, rfl, h1, h2⟩
    exact ⟨by omega, by rw [PL_cm]; omega, h2⟩
/-- one time -/
theorem PL_step {t : Nat} (ht : t < 9) {z : Int} {o : List Pl.Dn} {n : Int} (h1 : PL.Lf t 0 0 = z) (h2 : PL.outs t = o) (h3 : PL.idles t = n) :
    PL.Lf (t + 1) 0 0 = (if t % 2 = 1 ∧ 0 < z ∧ 1 ≤ t then z - 1 else z) ∧ PL.outs (t + 1) = (if t % 2 = 1 ∧ 1 ≤ t ∧ z = 1 then o ++ [(0, 0, 1, (t : Int) + 1)] else o) ∧ PL.idles (t + 1) = (if t % 2 = 1 ∧ ¬ (0 < z ∧ 1 ≤ t) then n + 1 else n) := by
  have e1 : PL.Lf (t + 1) = PL.next (PL.Lf t) t := rfl
  have e2 : PL.outs (t + 1) = PL.outs t ++ PL.out1 (PL.Lf t) t := rfl
  have e3 : PL.idles (t + 1) = PL.idles t + PL.idle1 (PL.Lf t) t := rfl
  rw [e1, e2, e3, h2, h3]
  rcases Pl.cases1 PL_ok (PL.Lf t) t with ⟨o1, _, c1, c2, c3⟩ | ⟨o1, _, hn, c1, c2, c3⟩ | ⟨i, k, o1, _, hb, c1, c2, c3⟩
  · rw [PL_on] at o1
    have : ¬ t % 2 = 1 := by simpa using o1
    rw [c1, c2, c3, if_neg (by omega), if_neg (by omega), if_neg (by omega), h1]
    simp
  · rw [PL_on] at o1
    have h5 : t % 2 = 1 := by simpa using o1
    have h6 : ¬ (1 ≤ t ∧ 0 < z) := fun h => hn 0 0 ((PL_pn ht).2 ⟨rfl, rfl, h.1, by rw [h1]; exact h.2⟩)
    rw [c1, c2, c3, if_neg (by omega), if_neg (by omega), if_pos (by omega), h1]
    simp
  · rw [PL_on] at o1
    have h5 : t % 2 = 1 := by simpa using o1
    obtain ⟨rfl, rfl, h7, h8⟩ := (PL_pn ht).1 hb.1
    rw [h1] at h8
    rw [h1] at c2
    refine ⟨?_, ?_, ?_⟩
    · rw [c1, Pl.less_at, h1, if_pos ⟨h5, h8, h7⟩]
    · rw [c2]
      by_cases hz : z = 1
      · rw [if_pos hz, if_pos ⟨h5, h7, hz⟩]; rfl
      · rw [if_neg hz, if_neg (fun h => hz h.2.2), List.append_nil]
    · rw [c3, if_neg (fun h => h.2 ⟨h8, h7⟩)]; omega
theorem PL_all : PL.outs 8 = [(0, 0, 1, 4)] ∧ PL.idles 8 = 2 := by
  have s0 : PL.Lf 0 0 0 = 2 ∧ PL.outs 0 = [] ∧ PL.idles 0 = 0 := ⟨rfl, rfl, rfl⟩
  have s1 := PL_step (t := 0) (by omega) s0.1 s0.2.1 s0.2.2
  simp at s1
  have s2 := PL_step (t := 1) (by omega) s1.1 s1.2.1 s1.2.2
  simp at s2
  have s3 := PL_step (t := 2) (by omega) s2.1 s2.2.1 s2.2.2
  simp at s3
  have s4 := PL_step (t := 3) (by omega) s3.1 s3.2.1 s3.2.2
  simp at s4
  have s5 := PL_step (t := 4) (by omega) s4.1 s4.2.1 s4.2.2
  simp at s5
  have s6 := PL_step (t := 5) (by omega) s5.1 s5.2.1 s5.2.2
  simp at s6
  have s7 := PL_step (t := 6) (by omega) s6.1 s6.2.1 s6.2.2
  simp at s7
  have s8 := PL_step (t := 7) (by omega) s7.1 s7.2.1 s7.2.2
  simp at s8
  exact ⟨s8.2.1, s8.2.2⟩
theorem PL_plE : plE PL 8 = 0 := by
  have h1 : TaskC.tchk PL.l = 0 := by
    unfold TaskC.tchk TaskC.tchkG
    rw [if_neg (by decide), if_pos]
    exact PL_ok.tk
  have h2 : chk PL.size PL.sl = 0 := by decide
  have h3 : fstE PL.l.length PL.f = 0 := by decide
  have h4 : PL.untE 8 = 0 := by decide
  unfold plE
  rw [if_pos h1, if_pos h2, if_pos h3, if_pos (.inl rfl), h4]
theorem PL_D : plD PL 8 = [(0, 0, 1, 4)] ∧ plN PL 8 = 2 := by
  unfold plD plN
  rw [if_pos PL_plE, if_pos PL_plE]
  exact PL_all
end PlayC
end Go.Proofs.Ytpnahhpkaegeeaa

/- playLives. -/
set_option linter.unusedVariables false
namespace Go.Proofs.Ytpnahhpkaegeeaa
open Go.RowKit hiding tok
open Go.Shelf Go.Sort
open SpanM SpanC TaskM PlayM
open RowsO hiding Tk
namespace PlayC
open RowG
open NumC (Row)
theorem lives_world (w : World) : ∃ V, V = ((w.alloc (.cells #[.int .i64 2, .int .i64 8, .int .i64 8] 67)).alloc (.cells #[.int .i64 1, .int .i64 2] 63)).alloc (.cells #[.int .i64 1] 3) ∧ Below w.heap.size w V ∧ Tks V (some ⟨w.heap.size, 0, none⟩) PL.l ∧ Sps V (some ⟨w.heap.size + 1, 0, none⟩) PL.sl ∧ Row V (some ⟨w.heap.size + 2, 0, none⟩) PL.f := by
  refine ⟨_, rfl, ?_, .inr ⟨_, 0, rfl, fun i hi => ?_⟩, .inr ⟨_, 0, rfl, fun i hi => ?_⟩, .inr ⟨_, 0, rfl, fun i hi => ?_⟩⟩
  · exact (((Below.refl _ w).alloc (Nat.le_refl _) _).alloc (by rw [World.size_alloc]; omega) _).alloc (by rw [World.size_alloc, World.size_alloc]; omega) _
  · have hb := box_alloc (box_alloc (box_new w #[.int .i64 2, .int .i64 8, .int .i64 8] 67) (.cells #[.int .i64 1, .int .i64 2] 63)) (.cells #[.int .i64 1] 3)
    match i, hi with
    | 0, _ => exact ⟨box_cell hb 0, box_cell hb 1, box_cell hb 2⟩
  · have hb := box_alloc (box_new (w.alloc (.cells #[.int .i64 2, .int .i64 8, .int .i64 8] 67)) #[.int .i64 1, .int .i64 2] 63) (.cells #[.int .i64 1] 3)
    rw [World.size_alloc] at hb
    match i, hi with
    | 0, _ => exact ⟨box_cell hb 0, box_cell hb 1⟩
  · have hb := box_new ((w.alloc (.cells #[.int .i64 2, .int .i64 8, .int .i64 8] 67)).alloc (.cells #[.int .i64 1, .int .i64 2] 63)) #[.int .i64 1] 3
    rw [World.size_alloc, World.size_alloc] at hb
    match i, hi with
    | 0, _ => exact box_cell hb 0
set_option maxRecDepth 20000 in
set_option maxHeartbeats 1600000 in
theorem plives (w : World) :
    Calls Try.prog 30 #[] w fun e w' => e = .returned (.bool true) ∧ Below w.heap.size w w' := by
  obtain ⟨V, hV, hb, hT, hS, hF⟩ := lives_world w
  have H := hid (play_any PL 8 _ _ _ 1 1 1 V hT hF hS)
  rw [PL_D.2, PL_plE, PL_D.1] at H
  simp only [show PL.l.length = 1 from rfl, show PL.f.length = 1 from rfl, show PL.sl.length = 1 from rfl, show PL.pol = 1 from rfl, show PL.size = 2 from rfl] at H
  have HB := hid hb
  have HV := hid hV
  clear hb hT hS hF hV
  go_enter Try.func30, Try.ntmps30
  go_wp2_with fail
  rw [← HV.out]
  refine H.out.mono ?_
  rintro e w1 ⟨⟨vd, rfl, ho⟩, hb1⟩
  obtain ⟨ad, cd, rfl, hrd, _⟩ := ho.rd
  have HB1 := hid (bel_of HB.out hb1)
  have HE := hid (equal_any ad (some ⟨w1.heap.size, 0, none⟩) cd 1 [(0, 0, 1, 4)] [(0, 0, 1, 4)] (w1.alloc (.cells #[.int .i64 0, .int .i64 0, .int .i64 1, .int .i64 4] 40)) (hrd.below ((Below.refl _ w1).alloc (Nat.le_refl _) _) (Nat.le_refl _)) (.inr ⟨_, 0, rfl, fun i j hi hj => by
    have hb := box_new w1 #[.int .i64 0, .int .i64 0, .int .i64 1, .int .i64 4] 40
    match i, hi with
    | 0, _ => rw [box_cell hb]; simp [ED]⟩) (by decide))
  rw [decide_eq_true rfl] at HE
  simp only [List.length_singleton] at HE
  clear ho hrd hb1
  simp only [List.length_singleton]
  go_wp2_with (first | (go_at_call 21; refine HE.out.mono ?_; rintro e w2 ⟨rfl, hb2⟩; have HB2 := hid (bel_of (HB1.out.alloc HB1.out.size _) hb2); clear hb2))
  go_ret
  exact ⟨rfl, HB2.out⟩
end PlayC
end Go.Proofs.Ytpnahhpkaegeeaa

/- Contracts: late, of the statements. -/
set_option linter.unusedVariables false
namespace Go.Proofs.Ytpnahhpkaegeeaa
open Go.RowKit hiding tok
open SpanM SpanC TaskM PlayM
open RowsO hiding Tk
namespace PlayC
open NumC (Row)
open RowG
theorem nodup_len {α : Type} [DecidableEq α] : ∀ (l m : List α), l.Nodup → (∀ x ∈ l, x ∈ m) → l.length ≤ m.length
  | [], m, _, _ => by simp
  | x :: r, m, h, hs => by
    have h1 := List.nodup_cons.1 h
    have hx : x ∈ m := hs x List.mem_cons_self
    have := nodup_len r (m.erase x) h1.2 fun y hy => (List.mem_erase_of_ne (fun e => h1.1 (by rw [← e]; exact hy))).2 (hs y (List.mem_cons_of_mem _ hy))
    rw [List.length_erase_of_mem hx] at this
    have := List.length_pos_of_mem hx
    simp; omega
theorem order_pair {d : List Pl.Dn} (h : Pl.InOrder d) : d.Pairwise fun x y => ¬ (x.1 = y.1 ∧ x.2.1 = y.2.1) := by
  rw [List.pairwise_iff_getElem]
  intro i j hi hj hij e
  have e1 := (h (d.take i) d[i] (d.drop (i + 1)) (by rw [← List.drop_eq_getElem_cons hi, List.take_append_drop])).1
  have e2 := (h (d.take j) d[j] (d.drop (j + 1)) (by rw [← List.drop_eq_getElem_cons hj, List.take_append_drop])).1
  have hpre : ∃ r, d.take j = d.take i ++ d[i] :: r := by
    refine ⟨(d.take j).drop (i + 1), ?_⟩
    have hi2 : i < (d.take j).length := by rw [List.length_take]; omega
    have := List.take_append_drop i (d.take j)
    rw [List.drop_eq_getElem_cons hi2, List.take_take, Nat.min_eq_left (by omega), List.getElem_take] at this
    exact this.symm
  obtain ⟨r, hr⟩ := hpre
  rw [hr] at e2
  unfold Pl.ofTask at e1 e2
  rw [List.countP_append, List.countP_cons, ← e.1, ← e.2, e1] at e2
  simp at e2
  omega
theorem outs_few {P : Pl} (hP : P.Ok) (t : Nat) : (P.outs t).length ≤ (P.jobsL t).length := by
  have hn : ((P.outs t).map fun d => (d.1.toNat, d.2.1.toNat)).Nodup := by
    rw [List.nodup_iff_pairwise_ne, List.pairwise_map]
    refine List.Pairwise.imp_of_mem (fun {x y} hx hy hxy e => ?_) (order_pair (Pl.outs_order hP t))
    obtain ⟨_, i, k, _, _, _, _, rfl⟩ := (Pl.mem_outs hP t x).1 hx
    obtain ⟨_, i', k', _, _, _, _, rfl⟩ := (Pl.mem_outs hP t y).1 hy
    simp at e
    exact hxy ⟨by simp [e.1], by simp [e.2]⟩
  have := nodup_len _ (P.jobsL t) hn (fun x hx => by
    obtain ⟨d, hd, rfl⟩ := List.mem_map.1 hx
    obtain ⟨s, i, k, hs, _, hb, _, rfl⟩ := (Pl.mem_outs hP t d).1 hd
    have h1 := hb.1.2.1
    simp
    exact (Pl.mem_jobsL hP).2 ⟨hb.1.1, by omega⟩)
  simpa using this
theorem outs_wf {P : Pl} {T : Int} (hR : Rt P T) : ∀ d ∈ P.outs T.toNat, wf64 d.1 ∧ wf64 d.2.1 ∧ wf64 d.2.2.2 := by
  intro d hd
  obtain ⟨s, i, k, hs, _, hb, _, rfl⟩ := (Pl.mem_outs hR.ok _ d).1 hd
  have h1 := hb.1.1
  have h2 := hb.1.2.1
  have h3 := (hR.ok.come h1 k).1
  have h4 := hR.l16
  have h5 := hR.t1
  unfold wf64
  refine ⟨?_, ?_, ?_⟩ <;> simp only <;> omega
theorem plE_all {P : Pl} {T : Int} (h : plE P T = 0) : TaskC.tchk P.l = 0 ∧ chk P.size P.sl = 0 ∧ fstE P.l.length P.f = 0 ∧ (P.pol = 1 ∨ P.pol = 2) ∧ P.untE T = 0 := by
  unfold plE at h
  split at h
  · split at h
    · split at h
      · split at h
        · exact ⟨by assumption, by assumption, by assumption, by assumption, h⟩
        · simp at h
      · exact absurd h (by assumption)
    · exact absurd h (by assumption)
  · exact absurd h (by assumption)
theorem plE_rt' {P : Pl} {T : Int} (h : plE P T = 0) : Rt P T := by
  obtain ⟨h1, h2, h3, _, h5⟩ := plE_all h
  exact rt_of h1 h2 h3 h5
theorem plD_wf (P : Pl) (T : Int) : ∀ d ∈ plD P T, wf64 d.1 ∧ wf64 d.2.1 ∧ wf64 d.2.2.2 := by
  unfold plD
  split
  · rename_i h
    exact outs_wf (plE_rt' h)
  · simp
theorem late_lt {P : Pl} {T : Int} (h : plE P T = 0) : ltE P T (plD P T).length = 0 ∧ ltD P T (plD P T) = (P.lates (P.outs T.toNat) T).map lt2 := by
  obtain ⟨h1, h2, h3, _, h5⟩ := plE_all h
  have hr := plE_rt' h
  have e : plD P T = P.outs T.toNat := by unfold plD; rw [if_pos h]
  have hl := outs_few hr.ok T.toNat
  have ht : ((T.toNat : Nat) : Int) = T := by have := hr.t0; omega
  rw [ht] at hl
  have h7 := hr.few
  have e0 : ltE P T (plD P T).length = 0 := by
    unfold ltE
    rw [if_pos h1, if_pos h3, if_pos h5, e, if_neg (by omega)]
  refine ⟨e0, ?_⟩
  unfold ltD
  rw [if_pos e0, e]
set_option maxRecDepth 20000 in
set_option maxHeartbeats 1600000 in
theorem late_any (P : Pl) (T : Int) (a b c : Option Addr) (ca cb cc : Nat) (w : World) (hr : Tks w a P.l) (hf : Row w b P.f) (hs : Sps w c P.sl) :
    Calls Try.prog 29 #[.slice a P.l.length ca, .agg #[.int .i64 P.size, .slice c P.sl.length cc], .slice b P.f.length cb, .int .i64 P.pol, .int .i64 T] w fun e w' => (∃ (n : Nat) (q : Bool), e = .returned (.tuple #[.int .i64 n, .bool q]) ∧ (plE P T ≠ 0 → q = false) ∧ (plE P T = 0 → q = true ∧ n = (P.lates (P.outs T.toNat) T).length)) ∧ Below w.heap.size w w' := by
  have H1 := hid (fun W (h : Below w.heap.size w W) => play_any P T a b c ca cb cc W (hr.below h (Nat.le_refl _)) (Row.below hf h (Nat.le_refl _)) (hs.below h (Nat.le_refl _)))
  have H2 := hid (fun W (h : Below w.heap.size w W) (ad : Option Addr) (cd : Nat) (hd : Rd ED W ad (plD P T)) => lates_any P T a b ad ca cb cd (plD P T) W (hr.below h (Nat.le_refl _)) (Row.below hf h (Nat.le_refl _)) hd (plD_wf P T))
  have HOK := hid (fun h : plE P T = 0 => late_lt h)
  clear hr hf hs
  generalize ltE P T (plD P T).length = E2 at *
  generalize ltD P T (plD P T) = L2 at *
  by_cases hE : plE P T = 0
  · obtain ⟨rfl, hL⟩ := HOK.out hE
    have hlen : L2.length = (P.lates (P.outs T.toNat) T).length := by rw [hL, List.length_map]
    have HL := hid hlen
    have HEE := hid hE
    rw [hE] at H1
    clear hL hlen hE HOK
    generalize plN P T = N1 at *
    generalize plD P T = D1 at *
    go_enter Try.func29, Try.ntmps29
    go_wp2_with fail
    refine (H1.out _ (by go_grown)).mono ?_
    rintro e w1 ⟨⟨v1, rfl, ho1⟩, b1⟩
    have B1 := hid (bel_of (show Below w.heap.size w _ by go_grown) b1)
    obtain ⟨ad, cd, hv1, hrd, _⟩ := ho1.rd
    subst hv1
    have H3 := hid (H2.out _ B1.out ad cd hrd)
    clear ho1 b1 hrd
    go_wp2_with fail
    refine H3.out.mono ?_
    rintro e w2 ⟨⟨v2, rfl, ho2⟩, b2⟩
    have B2 := hid (bel_of B1.out b2)
    obtain ⟨ax, cx, hv2⟩ := ho2.slice
    subst hv2
    clear ho2 b2
    go_wp2_with fail
    go_ret2
    exact ⟨⟨L2.length, true, rfl, fun h => absurd HEE.out h, fun _ => ⟨rfl, HL.out⟩⟩, B2.out⟩
  · have hne : (plE P T == 0) = false := by simpa using hE
    have HEE := hid (fun h : plE P T = 0 => hE h)
    clear HOK hE
    generalize plN P T = N1 at *
    generalize plE P T = E1 at *
    generalize plD P T = D1 at *
    go_enter Try.func29, Try.ntmps29
    go_wp2_with fail
    refine (H1.out _ (by go_grown)).mono ?_
    rintro e w1 ⟨⟨v1, rfl, ho1⟩, b1⟩
    have B1 := hid (bel_of (show Below w.heap.size w _ by go_grown) b1)
    obtain ⟨ad, cd, hv1, hrd, _⟩ := ho1.rd
    subst hv1
    have H3 := hid (H2.out _ B1.out ad cd hrd)
    clear ho1 b1 hrd
    go_wp2_with fail
    refine H3.out.mono ?_
    rintro e w2 ⟨⟨v2, rfl, ho2⟩, b2⟩
    have B2 := hid (bel_of B1.out b2)
    obtain ⟨ax, cx, hv2⟩ := ho2.slice
    subst hv2
    clear ho2 b2
    go_wp2_with fail
    go_ret2
    exact ⟨⟨L2.length, false, rfl, fun _ => rfl, fun h => absurd h HEE.out⟩, B2.out⟩
end PlayC
end Go.Proofs.Ytpnahhpkaegeeaa
