/- Several texts, one behind the other: PlyC. -/
import Derived.Test.YtpnahhpkaegeeaaPkQ
import Derived.Test.YtpnahhpkaegeeaaPkJ
/- Contracts: play.Play (written by gen_ply.py). -/
set_option linter.unusedVariables false
namespace Go.Proofs.Ytpnahhpkaegeeaa
open Go.RowKit hiding tok
open Go.Shelf Go.Sort
open SpanM SpanC TaskM PlayM
open RowsO hiding Tk
namespace PlayC
open TaskC (tchk tchk_zero tcheck_any)
open NumC (Row)
open RowG
/-- the set's box, and all that was there, are as they were -/
structure PB (w wi : World) (vs : Array Value) : Prop where
  bel : Below w.heap.size w wi
  sz : w.heap.size + 1 ≤ wi.heap.size
  set : wi.heap[w.heap.size]? = some (.cells vs 25)
theorem PB.start (w : World) (vs : Array Value) : PB w (w.alloc (.cells vs 25)) vs :=
  ⟨(Below.refl _ w).alloc (Nat.le_refl _) _, by rw [World.size_alloc]; omega, box_new w vs _⟩
theorem PB.step {w wi wj : World} {vs : Array Value} (h : PB w wi vs) (hb : Below wi.heap.size wi wj) : PB w wj vs :=
  ⟨bel_of h.bel hb, Nat.le_trans h.sz hb.size, box_below h.set hb (Nat.le_refl _)⟩
theorem PB.row {w wi wj : World} {vs : Array Value} {o : Option Nat} (h : PB w wi vs) (hg : wi.grownBy wj o) (ho : ∀ k, o = some k → w.heap.size + 1 ≤ k) : PB w wj vs := by
  have hsz := h.sz
  refine ⟨h.bel.trans ⟨hg.os, hg.tape, hg.output, hg.size, fun k hk => hg.block k (by omega) (fun e => by have := ho k e.symm; omega)⟩, Nat.le_trans h.sz hg.size, box_grown h.set hg (fun e => by have := ho _ e.symm; omega)⟩
/-- what Play tells, where something is wrong -/
def plE (P : Pl) (T : Int) : Int := if tchk P.l = 0 then (if chk P.size P.sl = 0 then (if fstE P.l.length P.f = 0 then (if P.pol = 1 ∨ P.pol = 2 then P.untE T else 1) else fstE P.l.length P.f) else chk P.size P.sl) else tchk P.l
noncomputable def plD (P : Pl) (T : Int) : List Pl.Dn := if plE P T = 0 then P.outs T.toNat else []
noncomputable def plN (P : Pl) (T : Int) : Int := if plE P T = 0 then P.idles T.toNat else 0
/-- all that is right -/
structure Rt (P : Pl) (T : Int) : Prop where
  ok : P.Ok
  l16 : P.l.length ≤ 16
  fk : ∀ x ∈ P.f, fok x
  ck : chk P.size P.sl = 0
  t0 : 0 ≤ T
  t1 : T ≤ 20000
  few : (P.jobsL T).length ≤ 2000
theorem ok_of {P : Pl} (h1 : tchk P.l = 0) (h2 : chk P.size P.sl = 0) (h3 : fstE P.l.length P.f = 0) : P.Ok ∧ P.l.length ≤ 16 ∧ ∀ x ∈ P.f, fok x := by
  obtain ⟨a1, a2⟩ := tchk_zero h1
  obtain ⟨b1, b2, b3, b4⟩ := chk_zero h2
  obtain ⟨c1, c2⟩ := fstE_zero h3
  exact ⟨⟨a2, c1, fun x hx => (c2 x hx).1, b1, b4⟩, a1, c2⟩
theorem rt_of {P : Pl} {T : Int} (h1 : tchk P.l = 0) (h2 : chk P.size P.sl = 0) (h3 : fstE P.l.length P.f = 0) (h4 : P.untE T = 0) : Rt P T := by
  obtain ⟨o1, o2, o3⟩ := ok_of h1 h2 h3
  unfold Pl.untE Pl.untG at h4
  split at h4
  · rename_i hT
    split at h4
    · simp at h4
    · exact ⟨o1, o2, o3, h2, hT.1, hT.2, by omega⟩
  · simp at h4
def unJ (x : Jb) : Nat × Nat := (x.t.toNat, x.k.toNat)
theorem sorted_js {P : Pl} {T : Int} (hP : P.Ok) {l' : List Jb} (hp : l'.Perm ((P.jobsL T).map (jb P))) (hs : Sorted l') : ∃ S, Js P T S ∧ l' = S.map (jb P) := by
  have hun : ∀ b, unJ (jb P b) = b := fun b => rfl
  have hS : (l'.map unJ).Perm (P.jobsL T) := by
    have := hp.map unJ
    rw [List.map_map, show (unJ ∘ jb P) = id from funext hun, List.map_id] at this
    exact this
  have he : l' = (l'.map unJ).map (jb P) := by
    rw [List.map_map]
    conv => lhs; rw [← List.map_id l']
    refine List.map_congr_left fun x hx => ?_
    obtain ⟨b, _, rfl⟩ := List.mem_map.1 (hp.mem_iff.1 hx)
    rfl
  refine ⟨l'.map unJ, ⟨hP, hS, fun i j hij hj => ?_⟩, he⟩
  rw [List.length_map] at hj
  have := hs i j hij hj
  unfold sc gt at this
  rw [getD_at l' i (by omega), getD_at l' j hj] at this
  have e : ∀ q (hq : q < l'.length), P.cm ((l'.map unJ)[q]'(by simpa using hq)).1 ((l'.map unJ)[q]'(by simpa using hq)).2 = l'[q].c := fun q hq => by
    rw [List.getElem_map]
    obtain ⟨b, _, hb⟩ := List.mem_map.1 (hp.mem_iff.1 (List.getElem_mem hq))
    rw [← hb]; rfl
  rw [e i (by omega), e j hj]
  exact this
theorem map_due (P : Pl) (S : List (Nat × Nat)) (h : P.pol = 1) : (S.map (jb P)).map byDue = S.map (jy P) := by
  rw [List.map_map]
  refine List.map_congr_left fun b _ => ?_
  unfold jb jy byDue Pl.ky
  simp only [Function.comp, if_pos h]
theorem map_fix (P : Pl) (S : List (Nat × Nat)) (h : P.pol ≠ 1) : S.map (jb P) = S.map (jy P) := by
  refine List.map_congr_left fun b _ => ?_
  unfold jb jy Pl.ky
  simp only [if_neg h]
variable (P : Pl) (T : Int) (a b c : Option Addr) (ca cb cc : Nat) (w : World)
set_option maxRecDepth 20000 in
set_option maxHeartbeats 1600000 in
theorem play_e1 (hr : Tks w a P.l) (hf : Row w b P.f) (hs : Sps w c P.sl) (h1 : tchk P.l ≠ 0) :
    Calls Try.prog 14 #[.slice a P.l.length ca, .agg #[.int .i64 P.size, .slice c P.sl.length cc], .slice b P.f.length cb, .int .i64 P.pol, .int .i64 T] w fun e w' => e = .returned (.tuple #[.slice none 0 0, .int .i64 0, .int .i64 (tchk P.l)]) ∧ Below w.heap.size w w' := by
  have HC1 := hid (fun W (h : Below w.heap.size w W) => tcheck_any a ca P.l W (hr.below h (Nat.le_refl _)))
  have HC2 := hid (fun W (h : Below w.heap.size w W) => check_any P.size c cc P.sl W (hs.below h (Nat.le_refl _)))
  have HS := hid hs
  generalize tchk P.l = z at *
  have hn : (z != 0) = true := by simpa using h1
  clear hr hf hs
  go_enter Try.func14, Try.ntmps14
  go_wp2_with (first | (go_at_call 41; refine (HC1.out _ (PB.start w _).bel).mono ?_; rintro e w1 ⟨rfl, hb1⟩; have B1 := hid ((PB.start w _).step hb1); clear hb1; have x0 := box_cell B1.out.set 0; have x1 := box_cell B1.out.set 1; simp at x0 x1))
  go_ret3
  exact ⟨rfl, B1.out.bel⟩
set_option maxRecDepth 20000 in
set_option maxHeartbeats 1600000 in
theorem play_e2 (hr : Tks w a P.l) (hf : Row w b P.f) (hs : Sps w c P.sl) (h1 : tchk P.l = 0) (h2 : chk P.size P.sl ≠ 0) :
    Calls Try.prog 14 #[.slice a P.l.length ca, .agg #[.int .i64 P.size, .slice c P.sl.length cc], .slice b P.f.length cb, .int .i64 P.pol, .int .i64 T] w fun e w' => e = .returned (.tuple #[.slice none 0 0, .int .i64 0, .int .i64 (chk P.size P.sl)]) ∧ Below w.heap.size w w' := by
  have HC1 := hid (fun W (h : Below w.heap.size w W) => tcheck_any a ca P.l W (hr.below h (Nat.le_refl _)))
  have HC2 := hid (fun W (h : Below w.heap.size w W) => check_any P.size c cc P.sl W (hs.below h (Nat.le_refl _)))
  have HS := hid hs
  rw [h1] at HC1
  generalize chk P.size P.sl = z at *
  have hn : (z != 0) = true := by simpa using h2
  clear hr hf hs
  go_enter Try.func14, Try.ntmps14
  go_wp2_with (first | (go_at_call 41; refine (HC1.out _ (PB.start w _).bel).mono ?_; rintro e w1 ⟨rfl, hb1⟩; have B1 := hid ((PB.start w _).step hb1); clear hb1; have x0 := box_cell B1.out.set 0; have x1 := box_cell B1.out.set 1; simp at x0 x1) | (go_at_call 42; refine (HC2.out _ B1.out.bel).mono ?_; rintro e w2 ⟨rfl, hb2⟩; have B2 := hid (B1.out.step hb2); clear hb2 x0 x1; have x0 := box_cell B2.out.set 0; have x1 := box_cell B2.out.set 1; simp at x0 x1))
  go_ret3
  exact ⟨rfl, B2.out.bel⟩
set_option maxRecDepth 20000 in
set_option maxHeartbeats 1600000 in
theorem play_e3 (hr : Tks w a P.l) (hf : Row w b P.f) (hs : Sps w c P.sl) (h1 : tchk P.l = 0) (h2 : chk P.size P.sl = 0) (h3 : fstE P.l.length P.f ≠ 0) :
    Calls Try.prog 14 #[.slice a P.l.length ca, .agg #[.int .i64 P.size, .slice c P.sl.length cc], .slice b P.f.length cb, .int .i64 P.pol, .int .i64 T] w fun e w' => e = .returned (.tuple #[.slice none 0 0, .int .i64 0, .int .i64 (fstE P.l.length P.f)]) ∧ Below w.heap.size w w' := by
  have HC1 := hid (fun W (h : Below w.heap.size w W) => tcheck_any a ca P.l W (hr.below h (Nat.le_refl _)))
  have HC2 := hid (fun W (h : Below w.heap.size w W) => check_any P.size c cc P.sl W (hs.below h (Nat.le_refl _)))
  have HS := hid hs
  have hl16 : P.l.length ≤ 16 := (tchk_zero h1).1
  have HC3 := hid (fun W (h : Below w.heap.size w W) => first_any a b ca cb P.l.length P.f W (Row.below hf h (Nat.le_refl _)) hl16)
  rw [h1] at HC1
  rw [h2] at HC2
  generalize fstE P.l.length P.f = z at *
  have hn : (z != 0) = true := by simpa using h3
  clear hr hf hs
  go_enter Try.func14, Try.ntmps14
  go_wp2_with (first | (go_at_call 41; refine (HC1.out _ (PB.start w _).bel).mono ?_; rintro e w1 ⟨rfl, hb1⟩; have B1 := hid ((PB.start w _).step hb1); clear hb1; have x0 := box_cell B1.out.set 0; have x1 := box_cell B1.out.set 1; simp at x0 x1) | (go_at_call 42; refine (HC2.out _ B1.out.bel).mono ?_; rintro e w2 ⟨rfl, hb2⟩; have B2 := hid (B1.out.step hb2); clear hb2 x0 x1; have x0 := box_cell B2.out.set 0; have x1 := box_cell B2.out.set 1; simp at x0 x1) | (go_at_call 43; refine (HC3.out _ B2.out.bel).mono ?_; rintro e w3 ⟨rfl, hb3⟩; have B3 := hid (B2.out.step hb3); clear hb3 x0 x1; have x0 := box_cell B3.out.set 0; have x1 := box_cell B3.out.set 1; simp at x0 x1))
  go_ret3
  exact ⟨rfl, B3.out.bel⟩
set_option maxRecDepth 20000 in
set_option maxHeartbeats 1600000 in
theorem play_e4 (hr : Tks w a P.l) (hf : Row w b P.f) (hs : Sps w c P.sl) (h1 : tchk P.l = 0) (h2 : chk P.size P.sl = 0) (h3 : fstE P.l.length P.f = 0) (h4 : ¬ (P.pol = 1 ∨ P.pol = 2)) :
    Calls Try.prog 14 #[.slice a P.l.length ca, .agg #[.int .i64 P.size, .slice c P.sl.length cc], .slice b P.f.length cb, .int .i64 P.pol, .int .i64 T] w fun e w' => e = .returned (.tuple #[.slice none 0 0, .int .i64 0, .int .i64 (1)]) ∧ Below w.heap.size w w' := by
  have HC1 := hid (fun W (h : Below w.heap.size w W) => tcheck_any a ca P.l W (hr.below h (Nat.le_refl _)))
  have HC2 := hid (fun W (h : Below w.heap.size w W) => check_any P.size c cc P.sl W (hs.below h (Nat.le_refl _)))
  have HS := hid hs
  have hl16 : P.l.length ≤ 16 := (tchk_zero h1).1
  have HC3 := hid (fun W (h : Below w.heap.size w W) => first_any a b ca cb P.l.length P.f W (Row.below hf h (Nat.le_refl _)) hl16)
  rw [h1] at HC1
  rw [h2] at HC2
  rw [h3] at HC3
  have hp1 : (P.pol != 1) = true := by simp; omega
  have hp2 : (P.pol != 2) = true := by simp; omega
  clear hr hf hs
  go_enter Try.func14, Try.ntmps14
  go_wp2_with (first | (go_at_call 41; refine (HC1.out _ (PB.start w _).bel).mono ?_; rintro e w1 ⟨rfl, hb1⟩; have B1 := hid ((PB.start w _).step hb1); clear hb1; have x0 := box_cell B1.out.set 0; have x1 := box_cell B1.out.set 1; simp at x0 x1) | (go_at_call 42; refine (HC2.out _ B1.out.bel).mono ?_; rintro e w2 ⟨rfl, hb2⟩; have B2 := hid (B1.out.step hb2); clear hb2 x0 x1; have x0 := box_cell B2.out.set 0; have x1 := box_cell B2.out.set 1; simp at x0 x1) | (go_at_call 43; refine (HC3.out _ B2.out.bel).mono ?_; rintro e w3 ⟨rfl, hb3⟩; have B3 := hid (B2.out.step hb3); clear hb3 x0 x1; have x0 := box_cell B3.out.set 0; have x1 := box_cell B3.out.set 1; simp at x0 x1))
  go_ret3
  exact ⟨rfl, B3.out.bel⟩
set_option maxRecDepth 20000 in
set_option maxHeartbeats 1600000 in
theorem play_e5a (hr : Tks w a P.l) (hf : Row w b P.f) (hs : Sps w c P.sl) (h1 : tchk P.l = 0) (h2 : chk P.size P.sl = 0) (h3 : fstE P.l.length P.f = 0) (hp1 : P.pol = 1) (h5 : P.untE T ≠ 0) :
    Calls Try.prog 14 #[.slice a P.l.length ca, .agg #[.int .i64 P.size, .slice c P.sl.length cc], .slice b P.f.length cb, .int .i64 P.pol, .int .i64 T] w fun e w' => e = .returned (.tuple #[.slice none 0 0, .int .i64 0, .int .i64 (P.untE T)]) ∧ Below w.heap.size w w' := by
  have HC1 := hid (fun W (h : Below w.heap.size w W) => tcheck_any a ca P.l W (hr.below h (Nat.le_refl _)))
  have HC2 := hid (fun W (h : Below w.heap.size w W) => check_any P.size c cc P.sl W (hs.below h (Nat.le_refl _)))
  have HS := hid hs
  have hl16 : P.l.length ≤ 16 := (tchk_zero h1).1
  have HC3 := hid (fun W (h : Below w.heap.size w W) => first_any a b ca cb P.l.length P.f W (Row.below hf h (Nat.le_refl _)) hl16)
  obtain ⟨o1, o2, o3⟩ := ok_of h1 h2 h3
  have HC4 := hid (fun W (h : Below w.heap.size w W) => until_any P o1 a b ca cb T W (hr.below h (Nat.le_refl _)) (Row.below hf h (Nat.le_refl _)) o2 o3)
  clear o1 o2 o3
  rw [h1] at HC1
  rw [h2] at HC2
  rw [h3] at HC3
  have hq1 : (P.pol != 1) = false := by simp [hp1]
  generalize P.untE T = z at *
  have hn : (z != 0) = true := by simpa using h5
  clear hr hf hs
  go_enter Try.func14, Try.ntmps14
  go_wp2_with (first | (go_at_call 41; refine (HC1.out _ (PB.start w _).bel).mono ?_; rintro e w1 ⟨rfl, hb1⟩; have B1 := hid ((PB.start w _).step hb1); clear hb1; have x0 := box_cell B1.out.set 0; have x1 := box_cell B1.out.set 1; simp at x0 x1) | (go_at_call 42; refine (HC2.out _ B1.out.bel).mono ?_; rintro e w2 ⟨rfl, hb2⟩; have B2 := hid (B1.out.step hb2); clear hb2 x0 x1; have x0 := box_cell B2.out.set 0; have x1 := box_cell B2.out.set 1; simp at x0 x1) | (go_at_call 43; refine (HC3.out _ B2.out.bel).mono ?_; rintro e w3 ⟨rfl, hb3⟩; have B3 := hid (B2.out.step hb3); clear hb3 x0 x1; have x0 := box_cell B3.out.set 0; have x1 := box_cell B3.out.set 1; simp at x0 x1) | (go_at_call 44; refine (HC4.out _ B3.out.bel).mono ?_; rintro e w4 ⟨rfl, hb4⟩; have B4 := hid (B3.out.step hb4); clear hb4 x0 x1; have x0 := box_cell B4.out.set 0; have x1 := box_cell B4.out.set 1; simp at x0 x1))
  go_ret3
  exact ⟨rfl, B4.out.bel⟩
set_option maxRecDepth 20000 in
set_option maxHeartbeats 1600000 in
theorem play_e5b (hr : Tks w a P.l) (hf : Row w b P.f) (hs : Sps w c P.sl) (h1 : tchk P.l = 0) (h2 : chk P.size P.sl = 0) (h3 : fstE P.l.length P.f = 0) (hp1 : P.pol = 2) (h5 : P.untE T ≠ 0) :
    Calls Try.prog 14 #[.slice a P.l.length ca, .agg #[.int .i64 P.size, .slice c P.sl.length cc], .slice b P.f.length cb, .int .i64 P.pol, .int .i64 T] w fun e w' => e = .returned (.tuple #[.slice none 0 0, .int .i64 0, .int .i64 (P.untE T)]) ∧ Below w.heap.size w w' := by
  have HC1 := hid (fun W (h : Below w.heap.size w W) => tcheck_any a ca P.l W (hr.below h (Nat.le_refl _)))
  have HC2 := hid (fun W (h : Below w.heap.size w W) => check_any P.size c cc P.sl W (hs.below h (Nat.le_refl _)))
  have HS := hid hs
  have hl16 : P.l.length ≤ 16 := (tchk_zero h1).1
  have HC3 := hid (fun W (h : Below w.heap.size w W) => first_any a b ca cb P.l.length P.f W (Row.below hf h (Nat.le_refl _)) hl16)
  obtain ⟨o1, o2, o3⟩ := ok_of h1 h2 h3
  have HC4 := hid (fun W (h : Below w.heap.size w W) => until_any P o1 a b ca cb T W (hr.below h (Nat.le_refl _)) (Row.below hf h (Nat.le_refl _)) o2 o3)
  clear o1 o2 o3
  rw [h1] at HC1
  rw [h2] at HC2
  rw [h3] at HC3
  have hq1 : (P.pol != 1) = true := by simp [hp1]
  have hq2 : (P.pol != 2) = false := by simp [hp1]
  generalize P.untE T = z at *
  have hn : (z != 0) = true := by simpa using h5
  clear hr hf hs
  go_enter Try.func14, Try.ntmps14
  go_wp2_with (first | (go_at_call 41; refine (HC1.out _ (PB.start w _).bel).mono ?_; rintro e w1 ⟨rfl, hb1⟩; have B1 := hid ((PB.start w _).step hb1); clear hb1; have x0 := box_cell B1.out.set 0; have x1 := box_cell B1.out.set 1; simp at x0 x1) | (go_at_call 42; refine (HC2.out _ B1.out.bel).mono ?_; rintro e w2 ⟨rfl, hb2⟩; have B2 := hid (B1.out.step hb2); clear hb2 x0 x1; have x0 := box_cell B2.out.set 0; have x1 := box_cell B2.out.set 1; simp at x0 x1) | (go_at_call 43; refine (HC3.out _ B2.out.bel).mono ?_; rintro e w3 ⟨rfl, hb3⟩; have B3 := hid (B2.out.step hb3); clear hb3 x0 x1; have x0 := box_cell B3.out.set 0; have x1 := box_cell B3.out.set 1; simp at x0 x1) | (go_at_call 44; refine (HC4.out _ B3.out.bel).mono ?_; rintro e w4 ⟨rfl, hb4⟩; have B4 := hid (B3.out.step hb4); clear hb4 x0 x1; have x0 := box_cell B4.out.set 0; have x1 := box_cell B4.out.set 1; simp at x0 x1))
  go_ret3
  exact ⟨rfl, B4.out.bel⟩
set_option maxRecDepth 20000 in
set_option maxHeartbeats 1600000 in
theorem play_ok1 (hr : Tks w a P.l) (hf : Row w b P.f) (hs : Sps w c P.sl) (h1 : tchk P.l = 0) (h2 : chk P.size P.sl = 0) (h3 : fstE P.l.length P.f = 0) (hp1 : P.pol = 1) (h5 : P.untE T = 0) :
    Calls Try.prog 14 #[.slice a P.l.length ca, .agg #[.int .i64 P.size, .slice c P.sl.length cc], .slice b P.f.length cb, .int .i64 P.pol, .int .i64 T] w fun e w' => (∃ vd, e = .returned (.tuple #[vd, .int .i64 (P.idles T.toNat), .int .i64 0]) ∧ OwnD w' w.heap.size vd (P.outs T.toNat)) ∧ Below w.heap.size w w' := by
  have HC1 := hid (fun W (h : Below w.heap.size w W) => tcheck_any a ca P.l W (hr.below h (Nat.le_refl _)))
  have HC2 := hid (fun W (h : Below w.heap.size w W) => check_any P.size c cc P.sl W (hs.below h (Nat.le_refl _)))
  have HS := hid hs
  have hl16 : P.l.length ≤ 16 := (tchk_zero h1).1
  have HC3 := hid (fun W (h : Below w.heap.size w W) => first_any a b ca cb P.l.length P.f W (Row.below hf h (Nat.le_refl _)) hl16)
  obtain ⟨o1, o2, o3⟩ := ok_of h1 h2 h3
  have HC4 := hid (fun W (h : Below w.heap.size w W) => until_any P o1 a b ca cb T W (hr.below h (Nat.le_refl _)) (Row.below hf h (Nat.le_refl _)) o2 o3)
  clear o1 o2 o3
  have hrt := rt_of h1 h2 h3 h5
  have HRT := hid hrt
  have HC5 := hid (fun W (h : Below w.heap.size w W) => jobsOf_any P hrt.ok a b ca cb T W (hr.below h (Nat.le_refl _)) (Row.below hf h (Nat.le_refl _)) hrt.l16 hrt.fk hrt.t0 hrt.t1)
  clear hrt
  rw [h1] at HC1
  rw [h2] at HC2
  rw [h3] at HC3
  rw [h5] at HC4
  have hq1 : (P.pol != 1) = false := by simp [hp1]
  have hq3 : (P.pol == 1) = true := by simp [hp1]
  clear hr hf hs
  go_enter Try.func14, Try.ntmps14
  go_wp2_with (first | (go_at_call 41; refine (HC1.out _ (PB.start w _).bel).mono ?_; rintro e w1 ⟨rfl, hb1⟩; have B1 := hid ((PB.start w _).step hb1); clear hb1; have x0 := box_cell B1.out.set 0; have x1 := box_cell B1.out.set 1; simp at x0 x1) | (go_at_call 42; refine (HC2.out _ B1.out.bel).mono ?_; rintro e w2 ⟨rfl, hb2⟩; have B2 := hid (B1.out.step hb2); clear hb2 x0 x1; have x0 := box_cell B2.out.set 0; have x1 := box_cell B2.out.set 1; simp at x0 x1) | (go_at_call 43; refine (HC3.out _ B2.out.bel).mono ?_; rintro e w3 ⟨rfl, hb3⟩; have B3 := hid (B2.out.step hb3); clear hb3 x0 x1; have x0 := box_cell B3.out.set 0; have x1 := box_cell B3.out.set 1; simp at x0 x1) | (go_at_call 44; refine (HC4.out _ B3.out.bel).mono ?_; rintro e w4 ⟨rfl, hb4⟩; have B4 := hid (B3.out.step hb4); clear hb4 x0 x1; have x0 := box_cell B4.out.set 0; have x1 := box_cell B4.out.set 1; simp at x0 x1) | (go_at_call 45; refine (HC5.out _ B4.out.bel).mono ?_; rintro e w5 ⟨⟨v5, rfl, ho5⟩, hb5⟩; have B5 := hid (B4.out.step hb5); have HO5 := hid ho5; have HG5 := hid (fun k hk => Nat.le_trans B4.out.sz (own_ge ho5 k hk)); have HC6 := hid (sort_any v5 _ _ w5 ho5 (by have := HRT.out.few; simp; omega)); clear hb5 ho5 x0 x1; have x0 := box_cell B5.out.set 0; have x1 := box_cell B5.out.set 1; simp at x0 x1) | (go_at_call 46; refine HC6.out.mono ?_; rintro e w6 ⟨rfl, l6, ho6, hg6, hp6, hs6⟩; have B6 := hid (B5.out.row hg6 HG5.out); have HO6 := hid ho6; have HJ6 := hid (sorted_js HRT.out.ok hp6 hs6); have HL6 := hid (show l6.length ≤ 2000 by rw [hp6.length_eq, List.length_map]; exact HRT.out.few); have HC7 := hid (rank_any v5 _ l6 w6 ho6 (by have := HL6.out; omega)); clear hg6 hp6 hs6 ho6 x0 x1; have x0 := box_cell B6.out.set 0; have x1 := box_cell B6.out.set 1; simp at x0 x1) | (go_at_call 49; refine HC7.out.mono ?_; rintro e w7 ⟨rfl, ho7, hg7⟩; have B7 := hid (B6.out.row hg7 HG5.out); obtain ⟨S, hJ, hl6⟩ := HJ6.out; have HC8 := hid (work_any P T S hJ HRT.out.t0 HRT.out.t1 (by have := HL6.out; rw [hl6, List.length_map] at this; exact this) v5 _ c cc w7 (by rw [← map_due P S hp1, ← hl6]; exact ho7) (HS.out.below B7.out.bel (Nat.le_refl _)) HRT.out.ck); clear hg7 ho7 x0 x1; have x0 := box_cell B7.out.set 0; have x1 := box_cell B7.out.set 1; simp at x0 x1) | (go_at_call 50; refine HC8.out.mono ?_; rintro e w8 ⟨⟨v8, rfl, ho8⟩, hb8⟩; have B8 := hid (B7.out.step hb8); have HO8 := hid (ho8.base (show w.heap.size ≤ w7.heap.size from B7.out.bel.size)); clear hb8 ho8))
  go_ret3
  exact ⟨⟨v8, rfl, HO8.out⟩, B8.out.bel⟩
set_option maxRecDepth 20000 in
set_option maxHeartbeats 1600000 in
theorem play_ok2 (hr : Tks w a P.l) (hf : Row w b P.f) (hs : Sps w c P.sl) (h1 : tchk P.l = 0) (h2 : chk P.size P.sl = 0) (h3 : fstE P.l.length P.f = 0) (hp1 : P.pol = 2) (h5 : P.untE T = 0) :
    Calls Try.prog 14 #[.slice a P.l.length ca, .agg #[.int .i64 P.size, .slice c P.sl.length cc], .slice b P.f.length cb, .int .i64 P.pol, .int .i64 T] w fun e w' => (∃ vd, e = .returned (.tuple #[vd, .int .i64 (P.idles T.toNat), .int .i64 0]) ∧ OwnD w' w.heap.size vd (P.outs T.toNat)) ∧ Below w.heap.size w w' := by
  have HC1 := hid (fun W (h : Below w.heap.size w W) => tcheck_any a ca P.l W (hr.below h (Nat.le_refl _)))
  have HC2 := hid (fun W (h : Below w.heap.size w W) => check_any P.size c cc P.sl W (hs.below h (Nat.le_refl _)))
  have HS := hid hs
  have hl16 : P.l.length ≤ 16 := (tchk_zero h1).1
  have HC3 := hid (fun W (h : Below w.heap.size w W) => first_any a b ca cb P.l.length P.f W (Row.below hf h (Nat.le_refl _)) hl16)
  obtain ⟨o1, o2, o3⟩ := ok_of h1 h2 h3
  have HC4 := hid (fun W (h : Below w.heap.size w W) => until_any P o1 a b ca cb T W (hr.below h (Nat.le_refl _)) (Row.below hf h (Nat.le_refl _)) o2 o3)
  clear o1 o2 o3
  have hrt := rt_of h1 h2 h3 h5
  have HRT := hid hrt
  have HC5 := hid (fun W (h : Below w.heap.size w W) => jobsOf_any P hrt.ok a b ca cb T W (hr.below h (Nat.le_refl _)) (Row.below hf h (Nat.le_refl _)) hrt.l16 hrt.fk hrt.t0 hrt.t1)
  clear hrt
  rw [h1] at HC1
  rw [h2] at HC2
  rw [h3] at HC3
  rw [h5] at HC4
  have hq1 : (P.pol != 1) = true := by simp [hp1]
  have hq2 : (P.pol != 2) = false := by simp [hp1]
  have hq3 : (P.pol == 1) = false := by simp [hp1]
  clear hr hf hs
  go_enter Try.func14, Try.ntmps14
  go_wp2_with (first | (go_at_call 41; refine (HC1.out _ (PB.start w _).bel).mono ?_; rintro e w1 ⟨rfl, hb1⟩; have B1 := hid ((PB.start w _).step hb1); clear hb1; have x0 := box_cell B1.out.set 0; have x1 := box_cell B1.out.set 1; simp at x0 x1) | (go_at_call 42; refine (HC2.out _ B1.out.bel).mono ?_; rintro e w2 ⟨rfl, hb2⟩; have B2 := hid (B1.out.step hb2); clear hb2 x0 x1; have x0 := box_cell B2.out.set 0; have x1 := box_cell B2.out.set 1; simp at x0 x1) | (go_at_call 43; refine (HC3.out _ B2.out.bel).mono ?_; rintro e w3 ⟨rfl, hb3⟩; have B3 := hid (B2.out.step hb3); clear hb3 x0 x1; have x0 := box_cell B3.out.set 0; have x1 := box_cell B3.out.set 1; simp at x0 x1) | (go_at_call 44; refine (HC4.out _ B3.out.bel).mono ?_; rintro e w4 ⟨rfl, hb4⟩; have B4 := hid (B3.out.step hb4); clear hb4 x0 x1; have x0 := box_cell B4.out.set 0; have x1 := box_cell B4.out.set 1; simp at x0 x1) | (go_at_call 45; refine (HC5.out _ B4.out.bel).mono ?_; rintro e w5 ⟨⟨v5, rfl, ho5⟩, hb5⟩; have B5 := hid (B4.out.step hb5); have HO5 := hid ho5; have HG5 := hid (fun k hk => Nat.le_trans B4.out.sz (own_ge ho5 k hk)); have HC6 := hid (sort_any v5 _ _ w5 ho5 (by have := HRT.out.few; simp; omega)); clear hb5 ho5 x0 x1; have x0 := box_cell B5.out.set 0; have x1 := box_cell B5.out.set 1; simp at x0 x1) | (go_at_call 46; refine HC6.out.mono ?_; rintro e w6 ⟨rfl, l6, ho6, hg6, hp6, hs6⟩; have B6 := hid (B5.out.row hg6 HG5.out); have HO6 := hid ho6; have HJ6 := hid (sorted_js HRT.out.ok hp6 hs6); have HL6 := hid (show l6.length ≤ 2000 by rw [hp6.length_eq, List.length_map]; exact HRT.out.few); obtain ⟨S, hJ, hl6⟩ := HJ6.out; have HC8 := hid (work_any P T S hJ HRT.out.t0 HRT.out.t1 (by have := HL6.out; rw [hl6, List.length_map] at this; exact this) v5 _ c cc w6 (by rw [← map_fix P S (by omega), ← hl6]; exact ho6) (HS.out.below B6.out.bel (Nat.le_refl _)) HRT.out.ck); clear hg6 hp6 hs6 ho6 x0 x1; have x0 := box_cell B6.out.set 0; have x1 := box_cell B6.out.set 1; simp at x0 x1) | (go_at_call 50; refine HC8.out.mono ?_; rintro e w8 ⟨⟨v8, rfl, ho8⟩, hb8⟩; have B8 := hid (B6.out.step hb8); have HO8 := hid (ho8.base (show w.heap.size ≤ w6.heap.size from B6.out.bel.size)); clear hb8 ho8))
  go_ret3
  exact ⟨⟨v8, rfl, HO8.out⟩, B8.out.bel⟩
/-- Play, whole -/
theorem play_any (hr : Tks w a P.l) (hf : Row w b P.f) (hs : Sps w c P.sl) :
    Calls Try.prog 14 #[.slice a P.l.length ca, .agg #[.int .i64 P.size, .slice c P.sl.length cc], .slice b P.f.length cb, .int .i64 P.pol, .int .i64 T] w fun e w' => (∃ vd, e = .returned (.tuple #[vd, .int .i64 (plN P T), .int .i64 (plE P T)]) ∧ OwnD w' w.heap.size vd (plD P T)) ∧ Below w.heap.size w w' := by
  have hnil : ∀ w', OwnD w' w.heap.size (.slice none 0 0) [] := fun w' => Own.nil _ _ _ _
  unfold plN plD plE
  by_cases h1 : tchk P.l = 0
  · simp only [if_pos h1]
    by_cases h2 : chk P.size P.sl = 0
    · simp only [if_pos h2]
      by_cases h3 : fstE P.l.length P.f = 0
      · simp only [if_pos h3]
        by_cases h4 : P.pol = 1 ∨ P.pol = 2
        · simp only [if_pos h4]
          by_cases h5 : P.untE T = 0
          · simp only [if_pos h5]
            rw [h5]
            rcases h4 with h4 | h4
            · exact play_ok1 P T a b c ca cb cc w hr hf hs h1 h2 h3 h4 h5
            · exact play_ok2 P T a b c ca cb cc w hr hf hs h1 h2 h3 h4 h5
          · simp only [if_neg h5]
            rcases h4 with h4 | h4
            · exact (play_e5a P T a b c ca cb cc w hr hf hs h1 h2 h3 h4 h5).mono fun e w' h => ⟨⟨_, h.1, hnil _⟩, h.2⟩
            · exact (play_e5b P T a b c ca cb cc w hr hf hs h1 h2 h3 h4 h5).mono fun e w' h => ⟨⟨_, h.1, hnil _⟩, h.2⟩
        · simp only [if_neg h4]
          exact (play_e4 P T a b c ca cb cc w hr hf hs h1 h2 h3 h4).mono fun e w' h => ⟨⟨_, h.1, hnil _⟩, h.2⟩
      · simp only [if_neg h3]
        exact (play_e3 P T a b c ca cb cc w hr hf hs h1 h2 h3).mono fun e w' h => ⟨⟨_, h.1, hnil _⟩, h.2⟩
    · simp only [if_neg h2]
      exact (play_e2 P T a b c ca cb cc w hr hf hs h1 h2).mono fun e w' h => ⟨⟨_, h.1, hnil _⟩, h.2⟩
  · simp only [if_neg h1]
    exact (play_e1 P T a b c ca cb cc w hr hf hs h1).mono fun e w' h => ⟨⟨_, h.1, hnil _⟩, h.2⟩
end PlayC
end Go.Proofs.Ytpnahhpkaegeeaa
