/- Contracts of package reply: Reply, Table. -/
import Derived.Test.YtnbfadfhpegddaaRepA
import Derived.Test.YtnbfadfhpegddaaPlyB
set_option linter.unusedVariables false
namespace Go.Proofs.Ytnbfadfhpegddaa
open Go.RowKit hiding tok
open SpanM SupM SpanC TaskM PlayM RankM
open RowsO hiding Tk
namespace RepC
open TaskC (tchk tchk_zero tcheck_any tk_snoc tk_mem)
open NumC (Row)
theorem OwnI.row {w : World} {B : Nat} {v : Value} {l : List Int} (h : OwnI w B v l) : ∃ a cap, v = .slice a l.length cap ∧ Row w a l ∧ (a = none → l.length = 0 ∧ cap = 0) := by
  rcases OwnI.form h with ⟨rfl, rfl⟩ | ⟨g, cap, rfl, _⟩
  · exact ⟨none, 0, rfl, .inl rfl, fun _ => ⟨rfl, rfl⟩⟩
  · exact ⟨_, cap, rfl, .inr ⟨g, 0, rfl, fun i hi => by rw [Nat.zero_add]; exact OwnI.cell h i hi⟩, by simp⟩
theorem OwnI.set {w : World} {B g n cap : Nat} {l : List Int} (h : OwnI w B (.slice (some ⟨g, 0, none⟩) n cap) l) (hn : n = l.length) (k : Nat) (v : Int) :
    OwnI (w.setCell ⟨g, k, none⟩ (.int .i64 v)) B (.slice (some ⟨g, 0, none⟩) n cap) (l.set k v) ∧ w.grownBy (w.setCell ⟨g, k, none⟩ (.int .i64 v)) (some g) := by
  subst hn
  obtain ⟨h1, h2⟩ := World.ownsRow.stored h k (.int .i64 v)
  refine ⟨?_, h2⟩
  show World.ownsRow _ _ _ _ _ _ _
  rw [List.length_set, List.map_set]
  exact h1
theorem OwnI.frozen {w : World} {B g n cap : Nat} {l : List Int} (h : OwnI w B (.slice (some ⟨g, 0, none⟩) n cap) l) (hn : n = l.length) (k : Nat) : w.frozen? ⟨g, k, none⟩ = false := by
  subst hn
  exact World.ownsRow.frozenAt h k
theorem OwnI.base' {w : World} {B C : Nat} {v : Value} {l : List Int} (h : OwnI w B v l) (hC : C ≤ B) : OwnI w C v l := by
  refine ⟨h.1, ?_⟩
  rcases h.2 with h0 | ⟨g, cap, cur, h1, h2, h3⟩
  · exact .inl h0
  · exact .inr ⟨g, cap, cur, h1, by omega, h3⟩
theorem made_zero (n : Nat) : (madeCells #[Value.int .i64 0] n).toList = (List.replicate n (0 : Int)).map (Value.int .i64) := by
  apply List.ext_getElem
  · simp [size_madeCells]
  · intro j h1 h2
    simp [madeCells, Nat.mod_one]
theorem OwnI.made {w : World} {B : Nat} {v : Value} {n : Nat} (h : w.ownsRow B 3 1 v n (madeCells #[Value.int .i64 0] n).toList) : OwnI w B v (List.replicate n 0) := by
  show World.ownsRow _ _ _ _ _ _ _
  rw [List.length_replicate, ← made_zero]
  exact h
/-- what Reply tells -/
noncomputable def rplE (l : List Tk) (i : Int) (size : Int) (sl : List Sp) : Int := if rchk l size sl = 0 then (if 0 ≤ i ∧ i < l.length then repE l i.toNat size sl else 7) else rchk l size sl
noncomputable def rplV (l : List Tk) (i : Int) (size : Int) (sl : List Sp) : Int := if rchk l size sl = 0 ∧ 0 ≤ i ∧ i < l.length then repV l i.toNat size sl else 0
set_option maxRecDepth 20000 in
set_option maxHeartbeats 1600000 in
theorem Reply_any (l : List Tk) (i : Int) (size : Int) (sl : List Sp) (a c : Option Addr) (ca cc : Nat) (w : World) (hr : Tks w a l) (hs : Sps w c sl) (hc : l.length ≤ ca) :
    Calls Try.prog 55 #[.slice a l.length ca, .int .i64 i, .agg #[.int .i64 size, .slice c sl.length cc]] w fun e w' => e = .returned (.tuple #[.int .i64 (rplV l i size sl), .int .i64 (rplE l i size sl)]) ∧ Below w.heap.size w w' := by
  have HC := hid (fun W (h : Below w.heap.size w W) => rcheck_any l size sl a c ca cc W (hr.below h (Nat.le_refl _)) (hs.below h (Nat.le_refl _)))
  unfold rplV rplE
  by_cases h1 : rchk l size sl = 0
  · obtain ⟨k1, k2⟩ := rchk_zero h1
    rw [if_pos h1]
    rw [h1] at HC
    by_cases h2 : 0 ≤ i ∧ i < l.length
    · rw [if_pos h2, if_pos ⟨h1, h2⟩]
      obtain ⟨n, rfl⟩ : ∃ n : Nat, i = n := ⟨i.toNat, by omega⟩
      have hi : n < l.length := by omega
      rw [Int.toNat_natCast]
      have HR := hid (fun W (h : Below w.heap.size w W) => replyOf_any l n size sl a c ca cc W (hr.below h (Nat.le_refl _)) (hs.below h (Nat.le_refl _)) hc k1 k2 hi)
      obtain ⟨i0, i1⟩ := id h2
      have i2 : ¬ (l.length : Int) ≤ (n : Int) := by omega
      clear hr hs h1 k1 k2
      generalize repV l n size sl = RV at *
      generalize repE l n size sl = RE at *
      go_enter Try.func55, Try.ntmps55
      go_wp2_with fail
      refine (HC.out _ (by go_grown)).mono ?_
      rintro e w1 ⟨rfl, b1⟩
      have HB1 := hid (box1 b1)
      have c0 : w1.cell? ⟨w.heap.size, 0, none⟩ = some (.int .i64 size) := boxc HB1.out 0
      have c1 : w1.cell? ⟨w.heap.size, 1, none⟩ = some (.slice c sl.length cc) := boxc HB1.out 1
      clear b1
      go_wp2_with fail
      refine (HR.out _ (of_alloc HB1.out)).mono ?_
      rintro e w2 ⟨rfl, b2⟩
      have HB2 := hid (box2 HB1.out b2)
      clear b2 c0 c1
      go_wp2_with fail
      go_ret2
      exact ⟨rfl, of_alloc HB2.out⟩
    · rw [if_neg h2, if_neg (fun h => h2 h.2)]
      have hcase : i < 0 ∨ (¬ i < 0 ∧ (l.length : Int) ≤ i) := by omega
      clear hr hs h1 k1 k2 h2
      rcases hcase with i0 | ⟨i0, i1⟩
      all_goals
        go_enter Try.func55, Try.ntmps55
        go_wp2_with fail
        refine (HC.out _ (by go_grown)).mono ?_
        rintro e w1 ⟨rfl, b1⟩
        have HB1 := hid (box1 b1)
        clear b1
        go_wp2_with fail
        go_ret2
        exact ⟨rfl, of_alloc HB1.out⟩
  · rw [if_neg h1, if_neg (fun h => h1 h.1)]
    have hn : (rchk l size sl != 0) = true := by simpa using h1
    clear hr hs h1
    generalize rchk l size sl = z at *
    go_enter Try.func55, Try.ntmps55
    go_wp2_with fail
    refine (HC.out _ (by go_grown)).mono ?_
    rintro e w1 ⟨rfl, b1⟩
    have HB1 := hid (box1 b1)
    clear b1
    go_wp2_with fail
    go_ret2
    exact ⟨rfl, of_alloc HB1.out⟩
/-- the replies of the first k tasks, 0 for all others -/
noncomputable def tbl (l : List Tk) (size : Int) (sl : List Sp) (k : Nat) : List Int := (List.range l.length).map fun j => if j < k then repV l j size sl else 0
theorem tbl_len (l : List Tk) (size : Int) (sl : List Sp) (k : Nat) : (tbl l size sl k).length = l.length := by simp [tbl]
theorem tbl_zero (l : List Tk) (size : Int) (sl : List Sp) : tbl l size sl 0 = List.replicate l.length 0 := by
  apply List.ext_getElem
  · simp [tbl]
  · intro j h1 h2; simp [tbl]
theorem tbl_set (l : List Tk) (size : Int) (sl : List Sp) {k : Nat} : (tbl l size sl k).set k (repV l k size sl) = tbl l size sl (k + 1) := by
  apply List.ext_getElem
  · simp [tbl]
  · intro j h1 h2
    rw [List.getElem_set]
    split
    · subst_vars; simp [tbl]
    · simp [tbl]
      by_cases c : j < k
      · rw [if_pos c, if_pos (by omega)]
      · rw [if_neg c, if_neg (by omega)]
theorem tbl_at (l : List Tk) (size : Int) (sl : List Sp) {j : Nat} (h : j < l.length) : (tbl l size sl l.length).getD j 0 = repV l j size sl := by
  simp [tbl, List.getD, h]
/-- what Table tells -/
noncomputable def tblL (l : List Tk) (size : Int) (sl : List Sp) : List Int := if rchk l size sl = 0 then tbl l size sl l.length else []
set_option maxRecDepth 20000 in
set_option maxHeartbeats 1600000 in
theorem Table_any (l : List Tk) (size : Int) (sl : List Sp) (a c : Option Addr) (ca cc : Nat) (w : World) (hr : Tks w a l) (hs : Sps w c sl) (hc : l.length ≤ ca) :
    Calls Try.prog 34 #[.slice a l.length ca, .agg #[.int .i64 size, .slice c sl.length cc]] w fun e w' => (∃ v, e = .returned (.tuple #[v, .int .i64 (rchk l size sl)]) ∧ OwnI w' w.heap.size v (tblL l size sl)) ∧ Below w.heap.size w w' := by
  have HC := hid (fun W (h : Below w.heap.size w W) => rcheck_any l size sl a c ca cc W (hr.below h (Nat.le_refl _)) (hs.below h (Nat.le_refl _)))
  unfold tblL
  by_cases h1 : rchk l size sl = 0
  · obtain ⟨k1, k2⟩ := rchk_zero h1
    rw [if_pos h1]
    rw [h1] at HC ⊢
    have hl16 := (tchk_zero k1).1
    have HR := hid (fun W (n : Nat) (hn : n < l.length) (h : Below w.heap.size w W) => replyOf_any l n size sl a c ca cc W (hr.below h (Nat.le_refl _)) (hs.below h (Nat.le_refl _)) hc k1 k2 hn)
    obtain ⟨i0, hi, hz0, hz1, hz2⟩ := info_parts infoInt
    have Hi := hid hi
    have Hz0 := hid hz0
    have Hz1 := hid hz1
    have Hz2 := hid hz2
    have HT0 := hid (tbl_zero l size sl)
    have HTL := hid (fun k => tbl_len l size sl k)
    have HTS := hid (fun k => tbl_set l size sl (k := k))
    clear hr hs h1 k1 k2 hi hz0 hz1 hz2
    generalize tbl l size sl = TB at *
    go_enter Try.func34, Try.ntmps34
    go_wp2_with fail
    refine (HC.out _ (by go_grown)).mono ?_
    rintro e w1 ⟨rfl, b1⟩
    have HB1 := hid (box1 b1)
    clear b1
    have hs1 : w.heap.size + 1 ≤ w1.heap.size := by have := HB1.out.size; simpa using this
    have HS1 := hid hs1
    go_wp2_with (at_make; refine wpList_make_full _ rfl _ _ 23 rfl (w.heap.size + 1) 3 i0 (.int .i64 0) 1 Try.underlying23 Hi.out Hz0.out Hz1.out _ _ _ _ l.length rfl rfl ?qc1 ?qc2 ?qc3 ?qc4 ?qc5 ?_)
    case qc1 => rfl
    case qc2 => rfl
    case qc3 => rw [Hz2.out]; omega
    case qc4 => unfold maxLen; omega
    case qc5 => exact HS1.out
    intro w2 hown hgrow
    have HB2 := hid (Below.grown HB1.out hgrow HS1.out (fun k hk => by simp at hk))
    have HO2 : Hid (OwnI w2 (w.heap.size + 1) (.slice (some ⟨w1.heap.size, 0, none⟩) l.length l.length) (TB 0)) := by
      show OwnI _ _ _ _
      rw [HT0.out]
      exact OwnI.made hown
    clear hown hgrow hs1
    generalize w1.heap.size = g at *
    have hg : w.heap.size + 1 ≤ g := HS1.out
    go_wp2_with fail
    go_loopw [20] (fun v20 wr => ∃ k : Nat, k ≤ l.length ∧ v20 = .int .i64 k ∧ OwnI wr (w.heap.size + 1) (.slice (some ⟨g, 0, none⟩) l.length l.length) (TB k) ∧ Below (w.heap.size + 1) (w.alloc (.cells #[.int .i64 size, .slice c sl.length cc] 26)) wr) (fun v20 _ => l.length - (intOf v20).toNat)
    case atStart => exact ⟨0, by omega, rfl, HO2.out, HB2.out⟩
    case round =>
      obtain ⟨k, hk, rfl, ho, hb⟩ := hrel
      have HO := hid ho
      have HB := hid hb
      by_cases hlt : k < l.length
      · have c0 : wr.cell? ⟨w.heap.size, 0, none⟩ = some (.int .i64 size) := boxc hb 0
        have c1 : wr.cell? ⟨w.heap.size, 1, none⟩ = some (.slice c sl.length cc) := boxc hb 1
        have HRk := hid (HR.out wr k hlt (of_alloc hb))
        have HS := hid (HTS.out k)
        have hki : (k : Int) < (l.length : Int) := by omega
        clear ho hb
        generalize repV l k size sl = RV at *
        generalize repE l k size sl = RE at *
        go_wp2_with fail
        refine HRk.out.mono ?_
        rintro e w3 ⟨rfl, b3⟩
        have ho3 := OwnI.below HO.out b3 (Nat.le_refl _)
        have HB3 := hid (box2 HB.out b3)
        have y0 := OwnI.cell ho3 k (by rw [HTL.out]; exact hlt)
        have y1 := OwnI.frozen ho3 (by rw [HTL.out]) k
        have HST := hid (OwnI.set ho3 (by rw [HTL.out]) k RV)
        have hs3 : w.heap.size + 1 ≤ w3.heap.size := by have := HB3.out.size; simpa using this
        clear b3 ho3 c0 c1
        go_wp2_with fail
        obtain ⟨o4, g4⟩ := HST.out
        have HB4 := hid (Below.grown HB3.out g4 hs3 (fun j hj => by simp at hj; omega))
        rw [HS.out] at o4
        clear y0 y1 g4
        go_roundw
        case rel => exact ⟨k + 1, by omega, by go_num, o4, HB4.out⟩
        case measure => simp [intOf]; omega
      · obtain rfl : k = l.length := by omega
        clear ho hb
        go_wp2_with fail
        go_ret2
        exact ⟨⟨_, rfl, OwnI.base' HO.out (by omega)⟩, of_alloc HB.out⟩
  · rw [if_neg h1]
    have hn : (rchk l size sl != 0) = true := by simpa using h1
    clear hr hs h1
    generalize rchk l size sl = z at *
    go_enter Try.func34, Try.ntmps34
    go_wp2_with fail
    refine (HC.out _ (by go_grown)).mono ?_
    rintro e w1 ⟨rfl, b1⟩
    have HB1 := hid (box1 b1)
    clear b1
    go_wp2_with fail
    go_ret2
    exact ⟨⟨_, rfl, World.ownsRow_nil _ _ _ _⟩, of_alloc HB1.out⟩
end RepC
end Go.Proofs.Ytnbfadfhpegddaa
