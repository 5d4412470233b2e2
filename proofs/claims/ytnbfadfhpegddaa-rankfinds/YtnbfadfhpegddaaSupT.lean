/- Contracts of package supply: within, check, tallyOf, perRound. -/
import Derived.Test.YtnbfadfhpegddaaSupI
import Derived.Deep.RegionHeld3
import Derived.Deep.AppendLies
set_option linter.unusedVariables false
namespace Go.Proofs.Ytnbfadfhpegddaa
open Go.RowKit
open SpanM SupM
namespace SpanC
theorem swithin_yes (x lo hi : Int) (w : World) (h1 : lo ≤ x) (h2 : x ≤ hi) :
    Calls Try.prog 71 #[.int .i64 x, .int .i64 lo, .int .i64 hi] w fun e w' => e = .returned (.bool true) ∧ w' = w := by
  go_enter Try.func71, Try.ntmps71
  go_wp2
  go_ret
  exact ⟨rfl, rfl⟩
theorem swithin_no (x lo hi : Int) (w : World) (h : ¬ (lo ≤ x ∧ x ≤ hi)) :
    Calls Try.prog 71 #[.int .i64 x, .int .i64 lo, .int .i64 hi] w fun e w' => e = .returned (.bool false) ∧ w' = w := by
  by_cases h1 : lo ≤ x
  · have h2 : ¬ x ≤ hi := fun k => h ⟨h1, k⟩
    clear h
    go_enter Try.func71, Try.ntmps71
    go_wp2
    go_ret
    exact ⟨rfl, rfl⟩
  · clear h
    go_enter Try.func71, Try.ntmps71
    go_wp2
    go_ret
    exact ⟨rfl, rfl⟩
/-- what check says -/
def sE (size : Int) (l : List Sp) (x hi : Int) : Int := if chk size l = 0 then (if 0 ≤ x ∧ x ≤ hi then 0 else 1) else chk size l
theorem sE_zero {size x hi : Int} {l : List Sp} (h : sE size l x hi = 0) : chk size l = 0 ∧ 0 ≤ x ∧ x ≤ hi := by
  unfold sE at h
  split at h
  · split at h
    · exact ⟨‹_›, ‹_›⟩
    · simp at h
  · exact absurd h ‹_›
theorem sE_of {size x hi : Int} {l : List Sp} (h : chk size l = 0) (h1 : 0 ≤ x) (h2 : x ≤ hi) : sE size l x hi = 0 := by
  unfold sE; rw [if_pos h, if_pos ⟨h1, h2⟩]
theorem scheck_any (size x hi : Int) (a : Option Addr) (cap : Nat) (l : List Sp) (w : World) (hr : Sps w a l) :
    Calls Try.prog 65 #[.agg #[.int .i64 size, .slice a l.length cap], .int .i64 x, .int .i64 hi] w fun e w' => e = .returned (.int .i64 (sE size l x hi)) ∧ Below w.heap.size w w' := by
  by_cases hk : chk size l = 0
  · have HC := hid (fun W (h : Below w.heap.size w W) => check_ok size a cap l W (hr.below h (Nat.le_refl _)) hk)
    by_cases hx : 0 ≤ x ∧ x ≤ hi
    · have e1 : sE size l x hi = 0 := sE_of hk hx.1 hx.2
      rw [e1]
      obtain ⟨x1, x2⟩ := hx
      clear e1 hk hr
      go_enter Try.func65, Try.ntmps65
      go_wp2_with (first | (go_at_call 38; refine (HC.out _ (by go_grown)).mono ?_; rintro e w' ⟨rfl, hb⟩) | (go_at_call 71; go_call (swithin_yes _ _ _ _) as e w' ⟨rfl, rfl⟩))
      go_ret
      exact ⟨rfl, bel_of (by go_grown) hb⟩
    · have e1 : sE size l x hi = 1 := by unfold sE; rw [if_pos hk, if_neg hx]
      rw [e1]
      clear e1 hk hr
      go_enter Try.func65, Try.ntmps65
      go_wp2_with (first | (go_at_call 38; refine (HC.out _ (by go_grown)).mono ?_; rintro e w' ⟨rfl, hb⟩) | (go_at_call 71; go_call (swithin_no _ _ _ _) as e w' ⟨rfl, rfl⟩))
      go_ret
      exact ⟨rfl, bel_of (by go_grown) hb⟩
  · have e1 : sE size l x hi = chk size l := by unfold sE; rw [if_neg hk]
    rw [e1]
    have HC := hid (fun W (h : Below w.heap.size w W) => check_any size a cap l W (hr.below h (Nat.le_refl _)))
    have hne : (chk size l != 0) = true := by simp [hk]
    clear hr hk e1
    generalize chk size l = c at HC hne ⊢
    go_enter Try.func65, Try.ntmps65
    go_wp2_with (go_at_call 38; refine (HC.out _ (by go_grown)).mono ?_; rintro e w' ⟨rfl, hb⟩)
    go_ret
    exact ⟨rfl, bel_of (by go_grown) hb⟩
theorem Tal.of {w : World} {B g n cap : Nat} {l : List Sp} (h : OwnI w B (.slice (some ⟨g, 0, none⟩) n cap) (ahL l l.length)) : Tal w g l := fun i hi => by
  have := h.cell i (by rw [ahL_len]; omega)
  rwa [ahL_get _ _ _ hi] at this
/-- the memory of a call of tallyOf -/
structure YBox (w W : World) (size : Int) (v : Value) : Prop where
  sz : w.heap.size + 2 ≤ W.heap.size
  b0 : W.cell? ⟨w.heap.size, 0, none⟩ = some (.int .i64 size)
  b1 : W.cell? ⟨w.heap.size, 1, none⟩ = some v
  r0 : W.cell? ⟨w.heap.size + 1, 0, none⟩ = some (.int .i64 0)
  r1 : W.cell? ⟨w.heap.size + 1, 1, none⟩ = some (.slice none 0 0)
  r2 : W.cell? ⟨w.heap.size + 1, 2, none⟩ = some (.slice none 0 0)
  f0 : W.frozen? ⟨w.heap.size + 1, 0, none⟩ = false
  f1 : W.frozen? ⟨w.heap.size + 1, 1, none⟩ = false
  f2 : W.frozen? ⟨w.heap.size + 1, 2, none⟩ = false
  be : Below w.heap.size w W
theorem YBox.start (w : World) (size : Int) (v : Value) : YBox w ((w.alloc (.cells #[.int .i64 size, v] 26)).alloc (.cells #[.int .i64 0, .slice none 0 0, .slice none 0 0] 84)) size v where
  sz := by simp
  b0 := (World.cell?_alloc_lt _ _ _ (by simp)).trans (World.cell?_alloc_at _ _ _ _ rfl)
  b1 := (World.cell?_alloc_lt _ _ _ (by simp)).trans (World.cell?_alloc_at _ _ _ _ rfl)
  r0 := World.cell?_alloc_at _ _ _ _ (by simp)
  r1 := World.cell?_alloc_at _ _ _ _ (by simp)
  r2 := World.cell?_alloc_at _ _ _ _ (by simp)
  f0 := World.frozen?_alloc_at _ _ _ _ (by simp)
  f1 := World.frozen?_alloc_at _ _ _ _ (by simp)
  f2 := World.frozen?_alloc_at _ _ _ _ (by simp)
  be := by go_grown
theorem YBox.s0 {w W : World} {size : Int} {v : Value} (h : YBox w W size v) (u : Value) : (W.setCell ⟨w.heap.size + 1, 0, none⟩ u).cell? ⟨w.heap.size + 1, 0, none⟩ = some u := World.cell?_setCell_same _ _ _ h.r0
theorem YBox.s1 {w W : World} {size : Int} {v : Value} (h : YBox w W size v) (u u' : Value) : ((W.setCell ⟨w.heap.size + 1, 0, none⟩ u).setCell ⟨w.heap.size + 1, 1, none⟩ u').cell? ⟨w.heap.size + 1, 1, none⟩ = some u' :=
  World.cell?_setCell_same _ _ _ ((World.cell?_setCell_other _ _ _ _ (by simp)).trans h.r1)
theorem YBox.s2 {w W : World} {size : Int} {v : Value} (h : YBox w W size v) (u u' u2 : Value) : (((W.setCell ⟨w.heap.size + 1, 0, none⟩ u).setCell ⟨w.heap.size + 1, 1, none⟩ u').setCell ⟨w.heap.size + 1, 2, none⟩ u2).cell? ⟨w.heap.size + 1, 2, none⟩ = some u2 :=
  World.cell?_setCell_same _ _ _ ((World.cell?_setCell_other _ _ _ _ (by simp)).trans ((World.cell?_setCell_other _ _ _ _ (by simp)).trans h.r2))
theorem Tal.set {w : World} {g : Nat} {l : List Sp} (h : Tal w g l) (p : Addr) (hp : p.block ≠ g) (u : Value) : Tal (w.setCell p u) g l := fun i hi =>
  (World.cell?_setCell_other _ _ _ _ (by intro e; apply hp; rw [e])).trans (h i hi)
theorem YBox.step {w W W' : World} {size : Int} {v : Value} (h : YBox w W size v) (hb : Below (w.heap.size + 2) W W') : YBox w W' size v where
  sz := Nat.le_trans h.sz hb.size
  b0 := (hb.cell (by simp)).trans h.b0
  b1 := (hb.cell (by simp)).trans h.b1
  r0 := (hb.cell (by simp)).trans h.r0
  r1 := (hb.cell (by simp)).trans h.r1
  r2 := (hb.cell (by simp)).trans h.r2
  f0 := (hb.frozen (by simp)).trans h.f0
  f1 := (hb.frozen (by simp)).trans h.f1
  f2 := (hb.frozen (by simp)).trans h.f2
  be := h.be.trans (hb.mono (by omega))
/-- append within the capacity, in a drawn region -/
theorem step_append_fits {P : Program} {ops : Array Oper} {o : Oper} {a : Act} (w : World) {K : Act → World → Prop} {Q : Exit → Act → World → Prop} {E : Prop}
    (hgd : o.guard = none) (s x : Operand) (t : TypeId) (hop : o.op = Op.call { callee := Callee.builtin Builtin.append, args := #[s, x], argTypes := #[t, t] })
    (base : Nat) (e : TypeId) (i : TypeInfo) (size : Nat) (h1 : P.underlying t = some (.slice e)) (h2 : P.info? e = some i) (h4 : i.size = size)
    (g k cap : Nat) (xs : List Value) (hs : a.eval s = .slice (some ⟨g, 0, none⟩) k cap) (hown : w.ownsRow base e size (.slice (some ⟨g, 0, none⟩) k cap) k xs) (ad : Addr) (m c : Nat) (news : List Value) (hx : a.eval x = .slice (some ad) m c) (hn : news.length = m * size)
    (hc : ∀ j u, news[j]? = some u → w.cell? (ad.add j) = some u) (h1c : ∀ u ∈ news, u.oneCell' = true) (b1 : k + m ≤ cap)
    (hK : ∀ w', w'.ownsRow base e size (.slice (some ⟨g, 0, none⟩) (k + m) cap) (k + m) (xs ++ news) → w.grownBy w' (some g) → K (a.put o.dst (.slice (some ⟨g, 0, none⟩) (k + m) cap)) w') :
    if Region.wanted o (yielded ops a.tmps) = true then Oper.wp P o a w K Q else E := by
  have hw : Region.wanted o (yielded ops a.tmps) = true := by simp [Region.wanted, hgd]
  rw [if_pos hw]
  obtain ⟨w', hrun, r1, r2⟩ := run_append_fits (P := P) w base t o.type e i size h1 h2 h4 g k cap xs hown ad m c news hn hc h1c b1
  unfold Oper.wp
  simp [execOp, hop, resolve, invoke, builtin, hs, hx, hrun, Result.andThen]
  exact hK _ r1 r2
set_option maxRecDepth 20000 in
set_option maxHeartbeats 1000000 in
theorem tally_any (size : Int) (a : Option Addr) (cap : Nat) (l : List Sp) (w : World) (hr : Sps w a l) (hk : chk size l = 0) :
    Calls Try.prog 66 #[.agg #[.int .i64 size, .slice a l.length cap]] w fun e w' => (∃ g c, e = .returned (.agg #[.int .i64 size, .slice a l.length cap, .slice (some ⟨g, 0, none⟩) (l.length + 1) c]) ∧ Tal w' g l) ∧ Below w.heap.size w w' := by
  obtain ⟨i0, hi, hz0, hz1, hz2⟩ := info_parts infoInt
  have Hi := hid hi
  have Hz0 := hid hz0
  have Hz1 := hid hz1
  have Hz2 := hid hz2
  obtain ⟨s1, s2, s3, s4⟩ := chk_zero hk
  have HG := hid s4
  have HR := hid hr
  clear hi hz0 hz1 hz2 hk hr s4
  go_enter Try.func66, Try.ntmps66
  have YB := hid (YBox.start w size (.slice a l.length cap))
  go_wp2_with (at_make; refine wpList_make_one _ rfl _ _ 23 rfl (w.heap.size + 2) 3 i0 Try.underlying23 Hi.out Hz0.out Hz1.out Hz2.out _ _ _ (l.length + 1) rfl rfl ?qc1 ?qc2 ?qc3 ?qc4 ?_)
  case qc1 => simp
  case qc2 => omega
  case qc3 => omega
  case qc4 => simp
  intro w1 hown hgrow
  have yb := YB.out.step (Below.grown (Below.refl (w.heap.size + 2) _) hgrow (by simp) (fun k hk => by simp at hk))
  have HO1 : Hid (OwnI w1 (w.heap.size + 2) (.slice (some ⟨w.heap.size + 2, 0, none⟩) 1 (l.length + 1)) (ahL l 0)) := by
    show w1.ownsRow _ _ _ _ _ _
    rw [ahL_zero]
    simpa using hown
  have YB1 := hid yb
  clear hown hgrow YB
  have x1 := yb.b0
  have x2 := yb.b1
  clear yb
  go_wp2_with fail
  go_loopw [3, 14] (fun v3 v14 wr => ∃ k : Nat, k ≤ l.length ∧ v14 = .int .i64 k ∧ (∃ m : Nat, v3 = .slice (some ⟨w.heap.size + 2, 0, none⟩) m (l.length + 1) ∧ Hid (m = k + 1)) ∧ OwnI wr (w.heap.size + 2) (.slice (some ⟨w.heap.size + 2, 0, none⟩) (k + 1) (l.length + 1)) (ahL l k) ∧ YBox w wr size (.slice a l.length cap)) (fun _ v14 _ => l.length - (intOf v14).toNat)
  case atStart => exact ⟨0, by omega, rfl, ⟨1, by simp, rfl⟩, HO1.out, YB1.out⟩
  case round =>
    obtain ⟨k, hk, rfl, ⟨m, rfl, HM⟩, ho, yb⟩ := hrel
    have q1 : (k : Int) < (m : Int) := by have := HM.out; omega
    have q2 : (m : Int) ≤ ((l.length + 1 : Nat) : Int) := by have := HM.out; omega
    have HO := hid ho
    have YB := hid yb
    have hsz := yb.sz
    by_cases hlt : k < l.length
    · obtain ⟨b, off, rfl, hbw, d1, d2⟩ := (HR.out.below yb.be (Nat.le_refl _)).at k hlt
      have hge := good_at HG.out hlt
      have hs := ah_succ l k hlt
      have hbd := ah_bd s1 HG.out (show k ≤ l.length by omega)
      have hc := ho.cell k (by rw [ahL_len]; omega)
      rw [ahL_get _ _ _ (Nat.le_refl _)] at hc
      obtain ⟨_, _, g3, g4, g5⟩ := hge
      generalize l.getD k (0, 0) = z at d1 d2 hs g3 g4 g5
      obtain ⟨f, t⟩ := z
      simp only at d1 d2 hs g3 g4 g5
      have HS := hid hs
      obtain ⟨b1, b2, b3⟩ := hbd
      have hA : ah l k ≤ 1000000 := by omega
      clear ho yb hs b2 b3
      have HE := hid (ahL_succ l k)
      rw [HS.out] at HE
      have HL := hid (ahL_len l k)
      generalize hA0 : ah l k = A at *
      have HA := hid hA0
      clear hA0
      have hgl : w.heap.size + 2 < wr.heap.size := World.block_lt_of_cell? _ _ hc
      go_wp2_with fail
      have e0 : (wr.alloc (.cells #[.int .i64 f, .int .i64 t] 58)).cell? ⟨wr.heap.size, 0, none⟩ = some (.int .i64 f) := World.cell?_alloc_at _ _ _ _ rfl
      have e1 : (wr.alloc (.cells #[.int .i64 f, .int .i64 t] 58)).cell? ⟨wr.heap.size, 1, none⟩ = some (.int .i64 t) := World.cell?_alloc_at _ _ _ _ rfl
      have HO2 := hid (World.ownsRow.alloc HO.out (.cells #[.int .i64 f, .int .i64 t] 58))
      have k1 : ∀ u ∈ ([.int .i64 (A + t - f)] : List Value), u.oneCell' = true := by intro u hu; simp at hu; subst hu; rfl
      have hfr : some wr.heap.size ≠ some (w.heap.size + 2) := by simp; omega
      rw [HL.out, ← HM.out] at HO2
      have hnum : m + 1 ≤ l.length + 1 := by have := HM.out; omega
      have hsz2 : (wr.alloc (.cells #[.int .i64 f, .int .i64 t] 58)).heap.size = wr.heap.size + 1 := by simp
      have keyc : ∀ W : World, W.ownsRow (w.heap.size + 2) 3 1 (.slice (some ⟨w.heap.size + 2, 0, none⟩) (m + 1) (l.length + 1)) (m + 1) ((ahL l k).map (Value.int .i64) ++ [.int .i64 (A + t - f)]) → W.cell? ⟨w.heap.size + 2, k, none⟩ = some (.int .i64 A) ∧ OwnI W (w.heap.size + 2) (.slice (some ⟨w.heap.size + 2, 0, none⟩) (k + 1 + 1) (l.length + 1)) (ahL l (k + 1)) := by
        intro W h
        rw [HM.out] at h
        have h2 : OwnI W (w.heap.size + 2) (.slice (some ⟨w.heap.size + 2, 0, none⟩) (k + 1 + 1) (l.length + 1)) (ahL l (k + 1)) := by
          show W.ownsRow _ _ _ _ _ _
          rw [HE.out, List.length_append, HL.out, List.map_append]
          rw [show A + (t - f) = A + t - f by omega]
          exact h
        refine ⟨?_, h2⟩
        have := h2.cell k (by rw [ahL_len]; omega)
        rw [ahL_get _ _ _ (by omega)] at this
        rwa [HA.out] at this
      have hnews : ∀ (j : Nat) (u : Value), ([.int .i64 (A + t - f)] : List Value)[j]? = some u → ((wr.alloc (.cells #[.int .i64 f, .int .i64 t] 58)).alloc (.cells #[.int .i64 (A + t - f)] 3)).drew.cell? ((⟨wr.heap.size + 1, 0, none⟩ : Addr).add j) = some u := by
        have := World.news_of_block (heap_alloc_new (wr.alloc (.cells #[.int .i64 f, .int .i64 t] 58)) (.cells #[.int .i64 (A + t - f)] 3))
        rw [hsz2] at this
        exact this
      have hown3 := World.ownsRow.drew (World.ownsRow.alloc HO2.out (.cells #[.int .i64 (A + t - f)] 3))
      have hw1 : IntKind.i64.wrap (A + t) = A + t := IntWalk.i64_in _ (by omega)
      have hw2 : IntKind.i64.wrap (A + t - f) = A + t - f := IntWalk.i64_in _ (by omega)
      have n0 : ((wr.alloc (.cells #[.int .i64 f, .int .i64 t] 58)).alloc (.cells #[.int .i64 (A + t - f)] 3)).drew.cell? ⟨wr.heap.size, 0, none⟩ = some (.int .i64 f) := Lib.cell?_alloc_some _ e0
      have n1 : ((wr.alloc (.cells #[.int .i64 f, .int .i64 t] 58)).alloc (.cells #[.int .i64 (A + t - f)] 3)).drew.cell? ⟨wr.heap.size, 1, none⟩ = some (.int .i64 t) := Lib.cell?_alloc_some _ e1
      have HK := hid keyc
      clear keyc
      have q0 : (0 : Int) ≤ (k : Int) := by omega
      go_region_held3 (fun W => W.cell? ⟨wr.heap.size, 0, none⟩ = some (.int .i64 f) ∧ W.cell? ⟨wr.heap.size, 1, none⟩ = some (.int .i64 t) ∧ W.cell? ⟨w.heap.size + 2, k, none⟩ = some (.int .i64 A)) (go_keep)
        (first | (refine step_append_fits _ (by rfl) _ _ _ (by rfl) (w.heap.size + 2) 3 i0 1 Try.underlying23 Hi.out Hz1.out (w.heap.size + 2) m (l.length + 1) ((ahL l k).map (Value.int .i64)) (by rfl) hown3 ⟨wr.heap.size + 1, 0, none⟩ 1 1 [.int .i64 (A + t - f)] (by rfl) (by simp) hnews k1 hnum ?_
                  intro w4 hown hgrow
                  have y0 := hgrow.cell (a := ⟨wr.heap.size, 0, none⟩) n0 hfr
                  have y1 := hgrow.cell (a := ⟨wr.heap.size, 1, none⟩) n1 hfr
                  have y2 := (HK.out _ hown).1))
      have HO4 := hid (HK.out _ hown).2
      have HB4 := hid (Below.grown (Below.drew (Below.alloc (Below.alloc (Below.refl (w.heap.size + 2) wr) (by omega) (.cells #[.int .i64 f, .int .i64 t] 58)) (by simp; omega) (.cells #[.int .i64 (A + t - f)] 3))) hgrow (by simp; omega) (fun k hk => by simp at hk; omega))
      clear hown hgrow y0 y1 y2 n0 n1 hown3 hnews e0 e1 HK
      go_wp2_with fail
      go_roundw
      case rel => exact ⟨k + 1, by omega, by go_num, ⟨m + 1, rfl, by show _ = _; rw [HM.out]⟩, HO4.out, YB.out.step HB4.out⟩
      case measure => simp [intOf]; omega
    · obtain rfl : k = l.length := by omega
      have x1 := yb.b0
      have x2 := yb.b1
      have x3 := yb.r0
      have x4 := yb.r1
      have x5 := yb.r2
      have x6 := yb.f0
      have x7 := yb.f1
      have x8 := yb.f2
      have hT := hid (Tal.of ho)
      clear ho
      obtain rfl : m = l.length + 1 := HM.out
      have z0 := yb.s0
      have z1 := yb.s1
      have z2 := yb.s2
      clear yb
      go_wp2_with fail
      have hT2 := ((hT.out.set ⟨w.heap.size + 1, 0, none⟩ (by simp) (.int .i64 size)).set ⟨w.heap.size + 1, 1, none⟩ (by simp) (.slice a l.length cap)).set ⟨w.heap.size + 1, 2, none⟩ (by simp) (.slice (some ⟨w.heap.size + 2, 0, none⟩) (l.length + 1) (l.length + 1))
      refine bodyPost_ret (v := .agg #[.int .i64 size, .slice a l.length cap, .slice (some ⟨w.heap.size + 2, 0, none⟩) (l.length + 1) (l.length + 1)]) (by simp [results, Try.results66, go_sem, z0, z1, z2]) rfl ?_
      refine ⟨⟨w.heap.size + 2, ⟨l.length + 1, rfl⟩, hT2⟩, ?_⟩
      have := YB.out.be
      go_grown
end SpanC
end Go.Proofs.Ytnbfadfhpegddaa
