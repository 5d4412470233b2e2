/- Several texts, one behind the other: DlD. -/
import Derived.Test.YtpnahhpkaegeeaaKClD
/- slices.DeleteFunc of rows of api.Done, at the closure of PlayAhead. -/
set_option linter.unusedVariables false
namespace Go.Proofs.Ytpnahhpkaegeeaa
open Go.RowKit hiding tok
open Go.Shelf
open SpanM SpanC TaskM PlayM
open RowsO hiding Tk
namespace PlayC
open NumC (Row)
open RowG
def keep (t : Int) (x : Pl.Dn) : Bool := !ahq x t
theorem keep_all {l : List Pl.Dn} {t : Int} (h : ∀ x ∈ l, ahq x t = false) : l.filter (keep t) = l := List.filter_eq_self.2 fun x hx => by unfold keep; rw [h x hx]; rfl
/-- what the row holds on the way -/
structure DlZ (l Z : List Pl.Dn) (t : Int) (i j : Nat) : Prop where
  ij : i < j
  jl : j ≤ l.length
  len : Z.length = l.length
  front : Z.take i = (l.take j).filter (keep t)
  rest : ∀ k, j ≤ k → Z[k]? = l[k]?
theorem DlZ.start {l : List Pl.Dn} {t : Int} {k : Nat} (h : k < l.length) (h1 : ahq l[k] t = true) (h2 : ∀ jj, (h : jj < k) → ∀ h2 : jj < l.length, ahq l[jj] t = false) : DlZ l l t k (k + 1) where
  ij := by omega
  jl := h
  len := rfl
  front := by
    have e : l.take (k + 1) = l.take k ++ [l[k]] := List.take_succ_eq_append_getElem h
    rw [e, List.filter_append]
    have : [l[k]].filter (keep t) = [] := by simp [keep, h1]
    rw [this, List.append_nil]
    symm
    refine keep_all fun x hx => ?_
    obtain ⟨jj, hj, rfl⟩ := List.mem_take_iff_getElem.1 hx
    exact h2 jj (by omega) (by omega)
  rest := fun _ _ => rfl
theorem DlZ.at {l Z : List Pl.Dn} {t : Int} {i j : Nat} (h : DlZ l Z t i j) (hj : j < l.length) : Z[j]'(by rw [h.len]; exact hj) = l[j] := by
  have := h.rest j (Nat.le_refl _)
  rw [List.getElem?_eq_getElem hj, List.getElem?_eq_getElem (by rw [h.len]; exact hj)] at this
  injection this
theorem DlZ.skip {l Z : List Pl.Dn} {t : Int} {i j : Nat} (h : DlZ l Z t i j) (hj : j < l.length) (hq : ahq l[j] t = true) : DlZ l Z t i (j + 1) where
  ij := by have := h.ij; omega
  jl := hj
  len := h.len
  front := by
    have e : l.take (j + 1) = l.take j ++ [l[j]] := List.take_succ_eq_append_getElem hj
    rw [e, List.filter_append, h.front]
    simp [keep, hq]
  rest := fun k hk => h.rest k (by omega)
theorem DlZ.put {l Z : List Pl.Dn} {t : Int} {i j : Nat} (h : DlZ l Z t i j) (hj : j < l.length) (hq : ahq l[j] t = false) : DlZ l (Z.set i l[j]) t (i + 1) (j + 1) where
  ij := by have := h.ij; omega
  jl := hj
  len := by rw [List.length_set, h.len]
  front := by
    have e : l.take (j + 1) = l.take j ++ [l[j]] := List.take_succ_eq_append_getElem hj
    have hi : i < Z.length := by have := h.ij; rw [h.len]; omega
    have e2 : (Z.set i l[j]).take (i + 1) = Z.take i ++ [l[j]] := by
      rw [List.take_succ_eq_append_getElem (by rw [List.length_set]; exact hi), List.getElem_set_self, List.take_set_of_le (Nat.le_refl _)]
    rw [e, List.filter_append, e2, h.front]
    simp [keep, hq]
  rest := fun k hk => by
    have := h.ij
    rw [List.getElem?_set_ne (by omega)]
    exact h.rest k (by omega)
set_option maxRecDepth 20000 in
set_option maxHeartbeats 400000 in
theorem deleteD_any (B g cap : Nat) (l : List Pl.Dn) (t : Int) (X : Nat) (w : World) (h : OwnD w B (.slice (some ⟨g, 0, none⟩) l.length cap) l) (hB : B ≤ w.heap.size) (hX : X < B) (c0 : w.cell? ⟨X, 0, none⟩ = some (.int .i64 t)) (hl : l.length ≤ 100000) :
    Calls Try.prog 32 #[.slice (some ⟨g, 0, none⟩) l.length cap, .func (.func 34) #[] #[.pointer (some ⟨X, 0, none⟩)]] w fun e w' => (∃ v, e = .returned v ∧ OwnD w' B v (l.filter (keep t))) ∧ Below B w w' := by
  have hgB : B ≤ g ∧ g < w.heap.size := h.lt g rfl
  have hcap : l.length ≤ cap := by
    rcases h.form with ⟨e, _⟩ | ⟨g', c', e, _, _, h1, _⟩
    · simp at e
    · injection e with _ _ e; omega
  have hrd : Rd ED w (some ⟨g, 0, none⟩) l := by
    obtain ⟨a', c', ev, hrd, _⟩ := h.rd
    injection ev with e1 _ _
    rw [e1]; exact hrd
  have HI := hid (ah_index _ cap l t X w hrd hl (by omega) c0)
  have HCX := hid (fun W (h : Below B w W) => (⟨(h.cell (by show X < B; exact hX)).trans c0, Nat.lt_of_lt_of_le (by omega : X < w.heap.size) h.size⟩ : W.cell? ⟨X, 0, none⟩ = some (.int .i64 t) ∧ X < W.heap.size))
  have HCL := hid (fun x W (h : Below B w W) => ah_cl x t X W (HCX.out W h).2 (HCX.out W h).1)
  have HO := hid h
  obtain ⟨hg1, hg2⟩ := hgB
  have HB := hid hB
  clear h hrd c0
  go_enter Try.func32, Try.ntmps32
  go_wp2_with fail
  refine HI.out.mono ?_
  rintro e w1 ⟨⟨i1, rfl, hat⟩, b1⟩
  have O1 := hid (Own.below HO.out b1 (Nat.le_refl _))
  have B1 := hid (b1.mono HB.out)
  have hs1 : w.heap.size ≤ w1.heap.size := b1.size
  clear b1
  rcases hat with ⟨rfl, hno⟩ | ⟨k, rfl, hk, hq, hpre⟩
  · have HF := hid (keep_all hno)
    clear hno
    go_wp2_with fail
    go_ret
    exact ⟨⟨_, rfl, by rw [HF.out]; exact O1.out⟩, B1.out⟩
  · have HZ := hid (DlZ.start hk hq hpre)
    have hne : ((k : Int) == -1) = false := by rw [beq_eq_false_iff_ne]; omega
    clear hq hpre
    go_wp2_with fail
    go_loopw [5, 6] (fun v5 v6 wr => ∃ (i j : Nat) (Z : List Pl.Dn), j ≤ l.length ∧ v5 = .int .i64 i ∧ v6 = .int .i64 j ∧ Hid (DlZ l Z t i j) ∧ OwnD wr B (.slice (some ⟨g, 0, none⟩) l.length cap) Z ∧ Below B w wr) (fun _ v6 _ => l.length - (intOf v6).toNat)
    case atStart => exact ⟨k, k + 1, l, by omega, rfl, by go_num, HZ, O1.out, B1.out⟩
    case round =>
      obtain ⟨i, j, Z, hj, rfl, rfl, hZ, ho, hb⟩ := hrel
      have HO2 := hid ho
      have HB2 := hid hb
      have hsz := hb.size
      have hij := hZ.out.ij
      by_cases hlt : j < l.length
      · have hc := fun k hk => ho.cell j k (by rw [hZ.out.len]; exact hlt) hk
        have hci := fun k hk => ho.cell i k (by rw [hZ.out.len]; omega) hk
        rw [hZ.out.at hlt] at hc
        have HSK := hid (fun hq => hZ.out.skip hlt hq)
        have HPT := hid (fun hq => hZ.out.put hlt hq)
        have HCJ := hid (fun W (h : Below B w W) => HCL.out l[j] W h)
        have HSET := hid (fun W (h : OwnD W B (.slice (some ⟨g, 0, none⟩) l.length cap) Z) => h.set i (by rw [hZ.out.len]; omega) l[j])
        generalize l[j] = x at *
        generalize Z[i]'(by rw [hZ.out.len]; omega) = y at *
        obtain ⟨z0, z1, z2, z3⟩ := x
        obtain ⟨y0, y1, y2, y3⟩ := y
        have a0 := hc 0 (by decide); have a1 := hc 1 (by decide); have a2 := hc 2 (by decide); have a3 := hc 3 (by decide)
        have k0 := hci 0 (by decide); have k1 := hci 1 (by decide); have k2 := hci 2 (by decide); have k3 := hci 3 (by decide)
        simp [ED] at a0 a1 a2 a3 k0 k1 k2 k3
        have f0 := ho.frozen (i * 4); have f1 := ho.frozen (i * 4 + 1); have f2 := ho.frozen (i * 4 + 2); have f3 := ho.frozen (i * 4 + 3)
        have hgw : g < wr.heap.size := by omega
        have ji : (j : Int) < (l.length : Int) := by omega
        have ii : (i : Int) < (l.length : Int) := by omega
        have hcase : ahq (z0, z1, z2, z3) t = true ∨ ahq (z0, z1, z2, z3) t = false := by cases ahq (z0, z1, z2, z3) t <;> simp
        clear hc hci ho hb
        simp only at HCJ
        go_wp2_with fail
        refine (HCJ.out _ (HB2.out.alloc (by have := HB.out; omega) _)).mono ?_
        rintro e w3 ⟨rfl, b3⟩
        have O3 := hid (Own.below (own_alloc HO2.out (.cells #[.int .i64 z0, .int .i64 z1, .int .i64 z2, .int .i64 z3] 40)) b3 (Nat.le_refl _))
        have B3 := hid ((HB2.out.alloc (by have := HB.out; omega) (.cells #[.int .i64 z0, .int .i64 z1, .int .i64 z2, .int .i64 z3] 40)).trans (b3.mono (by have := HB.out; simp; omega)))
        have hbx := box_below (box_new wr #[.int .i64 z0, .int .i64 z1, .int .i64 z2, .int .i64 z3] 40) b3 (Nat.le_refl _)
        have v0 := box_cell hbx 0; have v1 := box_cell hbx 1; have v2 := box_cell hbx 2; have v3 := box_cell hbx 3
        simp at v0 v1 v2 v3
        have hal := (Below.refl wr.heap.size wr).alloc (Nat.le_refl _) (.cells #[.int .i64 z0, .int .i64 z1, .int .i64 z2, .int .i64 z3] 40)
        have hb3 := bel_of hal b3
        have k0' := (hb3.cell (World.block_lt_of_cell? _ _ k0)).trans k0
        have k1' := (hb3.cell (World.block_lt_of_cell? _ _ k1)).trans k1
        have k2' := (hb3.cell (World.block_lt_of_cell? _ _ k2)).trans k2
        have k3' := (hb3.cell (World.block_lt_of_cell? _ _ k3)).trans k3
        have g0 := Own.frozen O3.out (i * 4); have g1 := Own.frozen O3.out (i * 4 + 1); have g2 := Own.frozen O3.out (i * 4 + 2); have g3 := Own.frozen O3.out (i * 4 + 3)
        have HST := hid (HSET.out w3 O3.out)
        clear a0 a1 a2 a3 k0 k1 k2 k3 f0 f1 f2 f3 b3 hbx hal hb3
        rcases hcase with hq | hq
        · have HZ2 := hid (HSK.out hq)
          rw [hq]
          clear hq k0' k1' k2' k3' g0 g1 g2 g3 v0 v1 v2 v3
          go_wp2_with fail
          go_roundw
          case rel => exact ⟨i, j + 1, Z, by omega, rfl, by go_num, HZ2, O3.out, B3.out⟩
          case measure => simp [intOf]; omega
        · have HZ2 := hid (HPT.out hq)
          rw [hq]
          clear hq
          go_wp2_with fail
          obtain ⟨o4, gr4⟩ := HST.out
          have hs3 : B ≤ w3.heap.size := Nat.le_trans HB.out (B3.out.size)
          have HB4 := hid (Below.grown B3.out gr4 hs3 (fun q hq => by simp at hq; omega))
          have HO4 := hid o4
          clear o4 gr4 k0' k1' k2' k3' g0 g1 g2 g3 v0 v1 v2 v3
          go_roundw
          case rel => exact ⟨i + 1, j + 1, _, by omega, by go_num, by go_num, HZ2, HO4.out, HB4.out⟩
          case measure => simp [intOf]; omega
      · have hjl : j = l.length := by omega
        have HLEN := hid hZ.out.len
        obtain ⟨m, hm⟩ : ∃ m, l.length - i = m + 1 := ⟨l.length - i - 1, by omega⟩
        have hcl : ∀ ty, (Builtin.clear_ #[27] ty #[.slice (some ⟨g, i * 4, none⟩) (m + 1) (cap - i)]).run Try.prog wr = .ok (.tuple #[]) (wr.setCells g (i * 4) (zl (m + 1))) := fun ty =>
          run_clearD wr ty g _ m _ (fun q hq => by
            have h1 : wr.cell? ⟨g, (i + q / 4) * 4 + q % 4, none⟩ = (ED.enc (Z[i + q / 4]'(by rw [hZ.out.len]; omega)))[q % 4]? := ho.cell (i + q / 4) (q % 4) (by rw [hZ.out.len]; omega) (by show q % 4 < 4; omega)
            rw [show (i + q / 4) * 4 + q % 4 = i * 4 + q by omega] at h1
            rw [h1, List.getElem?_eq_getElem (by rw [ED.hk]; show q % 4 < 4; omega)]; rfl) (fun q hq => ho.frozen _)
        have HCC := hid (own_clear (i := i) (m := m + 1) ho (by rw [hZ.out.len]; omega))
        have HFR := hid (show Z.take i = l.filter (keep t) by rw [hZ.out.front, hjl, List.take_length])
        have hcn : ¬ cap = i := by omega
        have hil : i ≤ l.length := by omega
        have hic : i ≤ cap := by omega
        have hil2 : (i : Int) ≤ (l.length : Int) := by omega
        have hjn : ¬ (j : Int) < (l.length : Int) := by omega
        have hbs : B ≤ wr.heap.size := by have := HB.out; omega
        clear ho hb
        go_wp2_with fail
        go_ret
        obtain ⟨o5, g5⟩ := HCC.out
        exact ⟨⟨_, rfl, by rw [← HFR.out]; exact o5⟩, Below.grown HB2.out g5 hbs (fun q hq => by simp at hq; omega)⟩
theorem deleteD_nil (t : Int) (X : Nat) (w : World) (hX : X < w.heap.size) (c0 : w.cell? ⟨X, 0, none⟩ = some (.int .i64 t)) :
    Calls Try.prog 32 #[.slice none 0 0, .func (.func 34) #[] #[.pointer (some ⟨X, 0, none⟩)]] w fun e w' => e = .returned (.slice none 0 0) ∧ Below w.heap.size w w' := by
  have HI := hid (ah_index none 0 [] t X w (.inl rfl) (by simp) hX c0)
  simp only [List.length_nil] at HI
  clear c0
  go_enter Try.func32, Try.ntmps32
  go_wp2_with fail
  refine HI.out.mono ?_
  rintro e w1 ⟨⟨i1, rfl, hat⟩, b1⟩
  have B1 := hid b1
  clear b1
  obtain rfl : i1 = -1 := by
    rcases hat with ⟨h, _⟩ | ⟨k, _, hk, _⟩
    · exact h
    · simp at hk
  clear hat
  go_wp2_with fail
  go_ret
  exact ⟨rfl, B1.out⟩
theorem deleteD_own (B : Nat) (v : Value) (l : List Pl.Dn) (t : Int) (X : Nat) (w : World) (h : OwnD w B v l) (hB : B ≤ w.heap.size) (hX : X < B) (c0 : w.cell? ⟨X, 0, none⟩ = some (.int .i64 t)) (hl : l.length ≤ 100000) :
    Calls Try.prog 32 #[v, .func (.func 34) #[] #[.pointer (some ⟨X, 0, none⟩)]] w fun e w' => (∃ v, e = .returned v ∧ OwnD w' B v (l.filter (keep t))) ∧ Below B w w' := by
  rcases h.form with ⟨rfl, rfl⟩ | ⟨g, cap, rfl, _⟩
  · exact (deleteD_nil t X w (by omega) c0).mono fun e w' h => ⟨⟨_, h.1, Own.nil _ _ _ _⟩, h.2.mono hB⟩
  · exact deleteD_any B g cap l t X w h hB hX c0 hl
end PlayC
end Go.Proofs.Ytpnahhpkaegeeaa
