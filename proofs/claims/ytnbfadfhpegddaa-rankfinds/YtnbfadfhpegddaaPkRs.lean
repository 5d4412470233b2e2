/- Several texts, one behind the other: RnkR RnkS RnkS2. -/
import Derived.Test.YtnbfadfhpegddaaPkRl
import Derived.Test.YtnbfadfhpegddaaKRepR
import Derived.BigQuiet
import Derived.Deep.AppendLies
import Derived.Deep.RegionHeld3
/- Contracts of the document's own answers about orders: Ordered, GoodOrder, OrderBy. -/
set_option linter.unusedVariables false
namespace Go.Proofs.Ytnbfadfhpegddaa
open Go.RowKit hiding tok
open Go.Shelf Go.Sort
open SpanM SupM SpanC TaskM PlayM RankM
open RowsO hiding Tk
namespace RankC
open TaskC (tchk tchkG tchk_zero tchk_of tchk_bd tcheck_any tk_snoc tk_mem)
open NumC (Row)
open RepC (OwnI.row OwnI.set OwnI.frozen OwnI.base' OwnI.made made_zero rchk rchk_zero tbl tbl_len repV rreplyOf_any)
open PlayC (Row.below box_cell box_alloc box_new)
set_option maxRecDepth 20000 in
set_option maxHeartbeats 1600000 in
theorem Ordered_any (l : List Tk) (o : List Int) (a b : Option Addr) (ca cb : Nat) (w : World) (hr : Tks w a l) (hr2 : Row w b o) (hR : ∀ i ∈ o, 0 ≤ i ∧ i < (l.length : Int)) (hn : o.length ≤ 16) (hl : l.length ≤ 16) :
    Calls Try.prog 21 #[.slice a l.length ca, .slice b o.length cb] w fun e w' => (∃ v, e = .returned v ∧ OwnTk w' w.heap.size v (ord l o)) ∧ Below w.heap.size w w' := by
  have HR := hid hr
  have HR2 := hid hr2
  have HRI := hid (fun k (hk : k < o.length) => hR _ (PlayC.in_mem hk))
  have HSN := hid (fun k (hk : k < o.length) => (by rw [take_getD o k hk]; simp [ord] : ord l (o.take (k + 1)) = ord l (o.take k) ++ [RankM.get l (o.getD k 0)]))
  have HGET := hid (fun i (h : i < l.length) => get_at l h)
  have HALL := hid (List.take_of_length_le (Nat.le_refl o.length))
  have HLEN := hid (fun k => (by rw [ord_len, List.length_take]; omega : (ord l (o.take k)).length ≤ 16))
  clear hr hr2 hR
  go_enter Try.func21, Try.ntmps21
  go_wp2_with fail
  go_loopw [5, 10] (fun v5 v10 wr => ∃ k : Nat, k ≤ o.length ∧ v10 = .int .i64 k ∧ OwnTk wr w.heap.size v5 (ord l (o.take k)) ∧ Below w.heap.size w wr) (fun _ v10 _ => o.length - (intOf v10).toNat)
  case atStart => exact ⟨0, by omega, rfl, OwnTk.nil _ _, Below.refl _ _⟩
  case round =>
    obtain ⟨k, hk, rfl, ho, hb⟩ := hrel
    have HO := hid ho
    have HB := hid hb
    have HSZ := hid hb.size
    obtain ⟨a9, n9, k9, rfl⟩ := OwnTk.slice ho
    by_cases hlt : k < o.length
    · obtain ⟨p, off, rfl, _, d1⟩ := PlayC.Row.at (Row.below HR2.out hb (Nat.le_refl _)) k hlt
      have HFK := hid (HSN.out k hlt)
      obtain ⟨i0, i1⟩ := HRI.out k hlt
      generalize o.getD k 0 = y at *
      obtain ⟨i, rfl⟩ : ∃ i : Nat, y = i := ⟨y.toNat, by omega⟩
      have hin : i < l.length := by omega
      obtain ⟨q, off2, rfl, _, t1, t2, t3⟩ := (HR.out.below hb (Nat.le_refl _)).at i hin
      have hki : (k : Int) < (o.length : Int) := by omega
      rw [HGET.out i hin] at HFK
      generalize l.getD i zTk = t at *
      obtain ⟨t4, t5, t6⟩ := t
      simp only at t1 t2 t3
      clear ho hb
      go_wp2_with (at_builtin; refine wpList_appendTk rfl _ _ rfl w.heap.size _ (ord l (o.take k)) [(t4, t5, t6)] (some ⟨wr.heap.size, 0, none⟩) 1 1 rfl ?qc0 rfl rfl ?qc1 ?qc2 ?qc3 ?qc4 ?qc5 ?_)
      case qc0 => exact World.ownsRow.alloc HO.out _
      case qc1 =>
        refine .inr ⟨_, 0, rfl, fun j hj => ?_⟩
        have hb := box_new wr #[.int .i64 t4, .int .i64 t5, .int .i64 t6] 38
        match j, hj with
        | 0, _ => exact ⟨box_cell hb 0, box_cell hb 1, box_cell hb 2⟩
      case qc2 => simp
      case qc3 => have := HLEN.out k; unfold maxLen; simp only [List.length_singleton]; omega
      case qc4 => have := HLEN.out k; simp only [List.length_singleton]; omega
      case qc5 => have := HSZ.out; simp; omega
      intro v' w2 hown hgrow
      have HB2 := hid (Below.grown (HB.out.alloc HSZ.out (.cells #[.int .i64 t4, .int .i64 t5, .int .i64 t6] 38)) hgrow (by have := HSZ.out; simp; omega) (fun g hg => (World.ownsRow.lt HO.out g hg).1))
      rw [← HFK.out] at hown
      have HO2 := hid hown
      clear hown hgrow t1 t2 t3 d1
      go_wp2_with fail
      go_roundw
      case rel => exact ⟨k + 1, by omega, by go_num, HO2.out, HB2.out⟩
      case measure => simp [intOf]; omega
    · obtain rfl : k = o.length := by omega
      rw [HALL.out] at HO
      clear ho hb
      go_wp2_with fail
      go_ret
      exact ⟨⟨_, rfl, HO.out⟩, HB.out⟩
set_option maxRecDepth 20000 in
set_option maxHeartbeats 1600000 in
theorem GoodOrder_any (l : List Tk) (o : List Int) (size : Int) (sl : List Sp) (a b c : Option Addr) (ca cb cc : Nat) (w : World) (hr : Tks w a l) (hr2 : Row w b o) (hs : Sps w c sl) (h1 : tchk l = 0) (h2 : OrdP l.length o) (h3 : chk size sl = 0) :
    Calls Try.prog 22 #[.slice a l.length ca, .slice b o.length cb, .agg #[.int .i64 size, .slice c sl.length cc]] w fun e w' => e = .returned (.bool (decide ((0 : Int) ∉ tbl (ord l o) size sl o.length))) ∧ Below w.heap.size w w' := by
  have hl := (tchk_zero h1).1
  have hol := h2.1
  have HO := hid (fun (W : World) (h : Below w.heap.size w W) => Ordered_any l o a b ca cb W (hr.below h (Nat.le_refl _)) (Row.below hr2 h (Nat.le_refl _)) (fun i hi => h2.bd hi) (by omega) hl)
  have HM := hid (show (ord l o).length = o.length from ord_len l o)
  have ht := tchk_ord (o := o) h1 (fun i hi => h2.bd hi) (by omega)
  have HRP := hid (fun (i : Nat) (p : Option Addr) (k : Nat) (W : World) (h : Below w.heap.size w W) (hp : Tks W p (ord l o)) (hk : (ord l o).length ≤ k) (hi : i < (ord l o).length) => rreplyOf_any (ord l o) i size sl p c k cc W hp (hs.below h (Nat.le_refl _)) hk ht h3 hi)
  have HNO := hid (fun (i : Nat) (hi : i < o.length) (hz : repV (ord l o) i size sl = 0) => (by
    have : (0 : Int) ∈ tbl (ord l o) size sl o.length := by
      unfold tbl
      rw [List.mem_map]
      exact ⟨i, List.mem_range.2 (by rw [ord_len]; exact hi), by rw [if_pos hi, hz]⟩
    simpa using this : decide ((0 : Int) ∉ tbl (ord l o) size sl o.length) = false))
  have HYES := hid (fun (h : ∀ i, i < o.length → repV (ord l o) i size sl ≠ 0) => (by
    have : (0 : Int) ∉ tbl (ord l o) size sl o.length := by
      intro hm
      unfold tbl at hm
      rw [List.mem_map] at hm
      obtain ⟨i, hi, e⟩ := hm
      have hi := List.mem_range.1 hi
      rw [ord_len] at hi
      rw [if_pos hi] at e
      exact h i hi e
    simpa using this : decide ((0 : Int) ∉ tbl (ord l o) size sl o.length) = true))
  have hon : o.length ≤ 16 := by omega
  clear hr hr2 hs h1 h2 h3 ht hol
  generalize decide ((0 : Int) ∉ tbl (ord l o) size sl o.length) = G at *
  generalize ord l o = M at *
  go_enter Try.func22, Try.ntmps22
  go_wp2_with fail
  refine (HO.out _ (B1.start w _ _).bel).mono ?_
  rintro e w1 ⟨⟨v, rfl, ho⟩, b1⟩
  have HB1 := hid ((B1.start w #[.int .i64 size, .slice c sl.length cc] 26).step b1)
  obtain ⟨am, cm, rfl, hm, hcm, _, _⟩ := OwnTk.rows' ho
  have HT1 := hid hm
  have HCM := hid hcm
  clear ho b1 hm hcm
  generalize hmm : M.length = m at *
  have HMM := hid hmm
  clear hmm
  have hme : m = o.length := HM.out
  subst hme
  go_wp2_with fail
  go_loopw [14] (fun v14 wr => ∃ k : Nat, k ≤ o.length ∧ v14 = .int .i64 k ∧ Hid (∀ i, i < k → repV M i size sl ≠ 0) ∧ Tks wr am M ∧ B1 w wr #[.int .i64 size, .slice c sl.length cc] 26) (fun v14 _ => o.length - (intOf v14).toNat)
  case atStart => exact ⟨0, by omega, rfl, fun i h => by omega, HT1.out, HB1.out⟩
  case round =>
    obtain ⟨k, hk, rfl, HA, ht, hb⟩ := hrel
    have HT := hid ht
    have HB := hid hb
    by_cases hlt : k < o.length
    · have HRK := hid (HRP.out k am cm wr hb.bel ht HCM.out hlt)
      have HX := hid (HNO.out k hlt)
      have c0 := hb.c0 0
      have c1 := hb.c0 1
      simp at c0 c1
      have hki : (k : Int) < (o.length : Int) := by omega
      clear ht hb
      generalize hz : repV M k size sl = z at *
      have HZ := hid hz
      clear hz
      by_cases h0 : z = 0
      · have HG := hid (HX.out h0)
        have e0 : (z == 0) = true := by simp [h0]
        clear h0
        go_wp2_with fail
        refine HRK.out.mono ?_
        rintro e w2 ⟨rfl, b2⟩
        have HB2 := hid (HB.out.step b2)
        clear b2 c0 c1
        go_wp2_with fail
        go_ret
        exact ⟨by rw [HG.out]; rfl, HB2.out.bel⟩
      · have e0 : (z == 0) = false := by simp [h0]
        have HA2 : Hid (∀ i, i < k + 1 → repV M i size sl ≠ 0) := fun i hi => by
          by_cases c : i = k
          · subst c; rw [HZ.out]; exact h0
          · exact HA.out i (by omega)
        clear h0
        go_wp2_with fail
        refine HRK.out.mono ?_
        rintro e w2 ⟨rfl, b2⟩
        have HB2 := hid (HB.out.step b2)
        have HT2 := hid (HT.out.below b2 (Nat.le_refl _))
        clear b2 c0 c1
        go_wp2_with fail
        go_roundw
        case rel => exact ⟨k + 1, by omega, by go_num, HA2, HT2.out, HB2.out⟩
        case measure => simp [intOf]; omega
    · obtain rfl : k = o.length := by omega
      have HG := hid (HYES.out HA.out)
      clear ht hb
      go_wp2_with fail
      go_ret
      exact ⟨by rw [HG.out]; rfl, HB.out.bel⟩
set_option maxRecDepth 20000 in
set_option maxHeartbeats 3200000 in
theorem OrderBy_any (f : Nat) (key : Tk → Int) (hk : IsKey f key) (l : List Tk) (a : Option Addr) (ca : Nat) (w : World) (hr : Tks w a l) (hl : l.length ≤ 16) :
    Calls Try.prog 15 #[.slice a l.length ca, .func (.func f) #[] #[]] w fun e w' => (∃ v, e = .returned v ∧ OwnI w' w.heap.size v (ordBy (fun i => key (RankM.get l i)) l.length)) ∧ Below w.heap.size w w' := by
  have mixed := mixd
  have HR := hid hr
  have HK := hid hk
  have hcf := hk.1
  have HGET := hid (fun i (h : i < l.length) => get_at l h)
  have HKEY := hid (fun (i : Nat) (h : i < l.length) => (by rw [get_at l h] : key (RankM.get l i) = key (l.getD i zTk)))
  obtain ⟨κ, hκ⟩ : ∃ κ : Int → Int, κ = fun i => key (RankM.get l i) := ⟨_, rfl⟩
  have HKE := hid (fun (i : Nat) (h : i < l.length) => (by rw [hκ]; exact HKEY.out i h : κ i = key (l.getD i zTk)))
  have hq := ordBy_spec κ l.length
  rw [← hκ]
  clear hκ
  generalize ordBy κ l.length = q at *
  have HP0 := hid (placed_zero hq)
  have HPA := hid (placed_all hq)
  have HPS := hid (fun i (h : i < l.length) => placed_set hq h)
  have HPL := hid (fun i => (by rw [placed_len]; exact hq.1.1 : (placed q i).length = l.length))
  have HCL := hid (fun i (h : i < l.length) => (hq.cnt_lt h).1)
  have HCS := hid (fun (i : Int) (j : Nat) (h : j < l.length) => cntTo_succ κ i h)
  have HC0 := hid (fun (i : Int) => cntTo_zero κ l.length i)
  have HCA := hid (fun (i : Int) => cntTo_all κ l.length i)
  obtain ⟨i0, hi, hz0, hz1, hz2⟩ := info_parts infoInt
  have Hi := hid hi
  have Hz0 := hid hz0
  have Hz1 := hid hz1
  have Hz2 := hid hz2
  clear hr hk hq hi hz0 hz1 hz2
  generalize placed q = TB at *
  generalize hn : l.length = n at *
  have HN := hid hn
  clear hn
  go_enter Try.func15, Try.ntmps15
  go_wp2_with (at_make; refine wpList_make_full _ rfl _ _ 23 rfl w.heap.size 3 i0 (.int .i64 0) 1 Try.underlying23 Hi.out Hz0.out Hz1.out _ _ _ _ n rfl rfl ?qc1 ?qc2 ?qc3 ?qc4 ?qc5 ?_)
  case qc1 => rfl
  case qc2 => rfl
  case qc3 => rw [Hz2.out]; omega
  case qc4 => unfold maxLen; omega
  case qc5 => exact Nat.le_refl _
  intro w2 hown hgrow
  have HB2 := hid (Below.grown (Below.refl w.heap.size w) hgrow (Nat.le_refl _) (fun k hk => by simp at hk))
  have HO2 : Hid (OwnI w2 w.heap.size (vS w.heap.size n n) (TB 0)) := by
    show OwnI _ _ _ _
    rw [HP0.out]
    exact OwnI.made hown
  clear hown hgrow
  obtain ⟨g, hge⟩ : ∃ g, g = w.heap.size := ⟨_, rfl⟩
  rw [← hge] at HO2 HB2
  have HG := hid hge
  rw [← hge]
  clear hge
  go_wp2_with fail
  go_loopw [14] (fun v14 wr => ∃ i : Nat, i ≤ n ∧ v14 = .int .i64 i ∧ OwnI wr g (vS g n n) (TB i) ∧ Below g w wr) (fun v14 _ => n - (intOf v14).toNat)
  case atStart => exact ⟨0, by omega, rfl, HO2.out, HB2.out⟩
  case round =>
    obtain ⟨i, hi, rfl, ho, hb⟩ := hrel
    have HO := hid ho
    have HB := hid hb
    have HSZ := hid (show g ≤ wr.heap.size by have := HG.out; have := hb.size; omega)
    clear ho hb
    by_cases hlt : i < n
    · have hii : (i : Int) < (n : Int) := by omega
      go_wp2_with fail
      obtain ⟨w0, hw0⟩ : ∃ x, x = wr := ⟨_, rfl⟩
      subst hw0
      go_loopw [7, 19] (fun v7 v19 wr => ∃ j : Nat, j ≤ n ∧ v7 = .int .i64 (cntTo κ n i j : Nat) ∧ v19 = .int .i64 j ∧ Hid (cntTo κ n i j ≤ j) ∧ OwnI wr g (vS g n n) (TB i) ∧ Below g w wr) (fun _ v19 _ => n - (intOf v19).toNat)
      case atStart => exact ⟨0, by omega, by rw [HC0.out]; rfl, rfl, (show cntTo κ n i 0 ≤ 0 by rw [HC0.out]; exact Nat.le_refl _), HO.out, HB.out⟩
      case round =>
        obtain ⟨j, hj, rfl, rfl, HLE, ho, hb⟩ := hrel
        have HO3 := hid ho
        have HB3 := hid hb
        have HSZ3 := hid (show g ≤ wr.heap.size by have := HG.out; have := hb.size; omega)
        by_cases hjl : j < n
        · have hbw : Below w.heap.size w wr := by rw [← HG.out]; exact hb
          obtain ⟨p, off, rfl, hp, x0, x1, x2⟩ := (HR.out.below hbw (Nat.le_refl _)).at j (by have := HN.out; omega)
          obtain ⟨p', off', e', hp', y0, y1, y2⟩ := (HR.out.below hbw (Nat.le_refl _)).at i (by have := HN.out; omega)
          simp only [Option.some.injEq, Addr.mk.injEq, and_true] at e'
          obtain ⟨rfl, rfl⟩ := e'
          have HS := hid (HCS.out i j hjl)
          have kj := HKE.out j hjl
          have ki := HKE.out i hlt
          have gx0 := fun n os => cell_grown (a := ⟨p, off + j * 3, none⟩) hp x0 n os
          have gx1 := fun n os => cell_grown (a := ⟨p, off + j * 3 + 1, none⟩) hp x1 n os
          have gx2 := fun n os => cell_grown (a := ⟨p, off + j * 3 + 2, none⟩) hp x2 n os
          have gy0 := fun n os => cell_grown (a := ⟨p, off + i * 3, none⟩) hp y0 n os
          have gy1 := fun n os => cell_grown (a := ⟨p, off + i * 3 + 1, none⟩) hp y1 n os
          have gy2 := fun n os => cell_grown (a := ⟨p, off + i * 3 + 2, none⟩) hp y2 n os
          have hkj := hid (fun W => HK.out.2 (l.getD j zTk) W)
          have hki := hid (fun W => HK.out.2 (l.getD i zTk) W)
          rw [← kj] at hkj
          rw [← ki] at hki
          have hjj : (j : Int) < (n : Int) := by omega
          clear ho hb hbw x0 x1 x2 y0 y1 y2 hp hp' kj ki
          generalize l.getD j zTk = tj at *
          generalize l.getD i zTk = ti at *
          obtain ⟨m, e, d⟩ := tj
          obtain ⟨m', e', d'⟩ := ti
          simp only at gx0 gx1 gx2 gy0 gy1 gy2
          have hlex : Lex κ j i ↔ (κ j < κ i ∨ (κ j = κ i ∧ (j : Int) < (i : Int))) := Iff.rfl
          generalize κ j = xj at *
          generalize κ i = xi at *
          generalize hct : cntTo κ n i j = ct at *
          have hcase : (decide (xj < xi) = true ∧ cntTo κ n i (j + 1) = ct + 1) ∨ (decide (xj < xi) = false ∧ (xj == xi) = true ∧ (decide ((j : Int) < (i : Int)) = true ∧ decide (j < i) = true) ∧ cntTo κ n i (j + 1) = ct + 1) ∨ (decide (xj < xi) = false ∧ (xj == xi) = true ∧ (decide ((j : Int) < (i : Int)) = false ∧ decide (j < i) = false) ∧ cntTo κ n i (j + 1) = ct) ∨ (decide (xj < xi) = false ∧ (xj == xi) = false ∧ cntTo κ n i (j + 1) = ct) := by
            have hs := HS.out
            by_cases c1 : xj < xi
            · left; exact ⟨decide_eq_true c1, by rw [hs, if_pos (hlex.2 (.inl c1))]⟩
            · right
              by_cases c2 : xj = xi
              · by_cases c3 : (j : Int) < (i : Int)
                · left; exact ⟨decide_eq_false c1, by simp [c2], ⟨decide_eq_true c3, decide_eq_true (by omega)⟩, by rw [hs, if_pos (hlex.2 (.inr ⟨c2, c3⟩))]⟩
                · right; left; exact ⟨decide_eq_false c1, by simp [c2], ⟨decide_eq_false c3, decide_eq_false (by omega)⟩, by rw [hs, if_neg (fun h => by rcases hlex.1 h with h | h; exact c1 h; exact c3 h.2)]; rfl⟩
              · right; right; exact ⟨decide_eq_false c1, by simp [c2], by rw [hs, if_neg (fun h => by rcases hlex.1 h with h | h; exact c1 h; exact c2 h.1)]; rfl⟩
          have hct16 : ct ≤ 16 := by have := HLE.out; omega
          clear hlex HS hct
          rcases hcase with ⟨c1, hc⟩ | ⟨c1, c2, ⟨c3, c4⟩, hc⟩ | ⟨c1, c2, ⟨c3, c4⟩, hc⟩ | ⟨c1, c2, hc⟩
          all_goals
            have HCT := hid hc
            clear hc
            go_wp2_with fail
            refine wp_region_quiet_grown (by assumption) (by kernel_rfl) ?_
            repeat (first | go_big_quiet_step (first | (with_reducible exact Calls.grown_of (hkj.out _)) | (with_reducible exact Calls.grown_of (hki.out _))) | quiet_step (first | (with_reducible exact Calls.grown_of (hkj.out _)) | (with_reducible exact Calls.grown_of (hki.out _))))
            refine wpQuiet_nil ?_
            intro _ hw'
            obtain ⟨⟨nq, osq⟩, hw''⟩ := hw'
            subst hw''
            go_wp2_with fail
            go_roundw
            case rel =>
              have hle := HLE.out
              have hct2 := HCT.out
              exact ⟨j + 1, by omega, by first | (rw [hct2]; done) | (rw [hct2, Int.natCast_add]; rfl) | (rw [hct2]; go_num) | (trace_state; fail), by go_num, (show cntTo κ n i (j + 1) ≤ j + 1 by omega), owni_grow HO3.out _ _, below_grow HB3.out HSZ3.out _ _⟩
            case measure => simp [intOf]; omega
        · obtain rfl : j = n := by omega
          have HCC := hid (HCA.out i)
          have HCLT := hid (HCL.out i hlt)
          rw [HCC.out]
          have HST := hid (OwnI.set ho (by rw [HPL.out]) (cnt κ j i) (i : Int))
          have HPP := hid (HPS.out i hlt)
          have y0 := OwnI.cell ho (cnt κ j i) (by rw [HPL.out]; exact HCLT.out)
          have y1 := OwnI.frozen ho (by rw [HPL.out]) (cnt κ j i)
          have hc1 : ((cnt κ j i : Nat) : Int) < (j : Int) := by have := HCLT.out; omega
          clear ho hb
          generalize cnt κ j i = ct at *
          go_wp2_with fail
          obtain ⟨o4, g4⟩ := HST.out
          have HB4 := hid (Below.grown HB3.out g4 HSZ3.out (fun k hk => by simp at hk; omega))
          rw [HPP.out] at o4
          clear y0 y1 g4
          go_roundw
          case rel => exact ⟨i + 1, by omega, by go_num, o4, HB4.out⟩
          case measure => simp [intOf]; omega
    · obtain rfl : i = n := by omega
      rw [HPA.out] at HO
      go_wp2_with fail
      go_ret
      have ho := HO.out
      have hb := HB.out
      rw [HG.out] at ho hb
      exact ⟨⟨_, rfl, by rw [HG.out]; exact ho⟩, hb⟩
end RankC
end Go.Proofs.Ytnbfadfhpegddaa

/- Contract of the document's own answer: FoundOrder. -/
set_option linter.unusedVariables false
namespace Go.Proofs.Ytnbfadfhpegddaa
open Go.RowKit hiding tok
open Go.Shelf Go.Sort
open SpanM SupM SpanC TaskM PlayM RankM
open RowsO hiding Tk
namespace RankC
open TaskC (tchk tchkG tchk_zero tchk_of tchk_bd tcheck_any tk_snoc tk_mem)
open NumC (Row)
open RepC (OwnI.row OwnI.set OwnI.frozen OwnI.base' OwnI.made made_zero rchk rchk_zero repV rreplyOf_any)
open PlayC (Row.below box_cell box_alloc box_new)
/-- 'append' in a region that draws its order: any number of cells -/
theorem step_append_own {P : Program} {ops : Array Oper} {o : Oper} {a : Act} {w : World} {K : Act → World → Prop} {Q : Exit → Act → World → Prop} {E : Prop} (hgd : o.guard = none) (s x : Operand) (t : TypeId)
    (ho : o.op = .call { callee := .builtin .append, args := #[s, x], argTypes := #[t, t] })
    (base : Nat) (e : TypeId) (i : TypeInfo) (z : Value) (size bytes : Nat) (ht : P.underlying t = some (.slice e)) (hi : P.info? e = some i) (hz : i.zero = some z)
    (hsize : i.size = size) (hby : i.bytes = bytes) (hzs : z.cells.size = size) (hsz : 0 < size)
    (v : Value) (n : Nat) (xs : List Value) (hs : a.eval s = v) (hown : w.ownsRow base e size v n xs)
    (ad : Addr) (m c : Nat) (news : List Value) (hx : a.eval x = .slice (some ad) m c) (hl : news.length = m * size) (hnews : ∀ j u, news[j]? = some u → w.cell? (ad.add j) = some u) (h1 : ∀ u ∈ news, u.oneCell' = true)
    (h63 : n + m ≤ maxLen) (hbytes : (n + m) * bytes ≤ 140737488355328) (hbase : base ≤ w.heap.size)
    (h : ∀ v' w', w'.ownsRow base e size v' (n + m) (xs ++ news) → w.grownBy w' v.ownBlock → (v' = .slice none 0 0 ↔ v = .slice none 0 0 ∧ m = 0) → K (a.put o.dst v') w') :
    if Region.wanted o (yielded ops a.tmps) = true then Oper.wp P o a w K Q else E := by
  have hw : Region.wanted o (yielded ops a.tmps) = true := by simp [Region.wanted, hgd]
  rw [if_pos hw]
  exact wp_append_own w s x t ho base e i z size bytes ht hi hz hsize hby hzs hsz v n xs hs hown ad m c news hx hl hnews h1 h63 hbytes hbase h
/-- ints that lie somewhere, as cells -/
theorem row_news {w : World} {pb po : Nat} {l : List Int} (h : Row w (some ⟨pb, po, none⟩) l) : ∀ j u, (flI l)[j]? = some u → w.cell? ((⟨pb, po, none⟩ : Addr).add j) = some u := by
  intro j u hj
  have hlt : j < l.length := by have := (List.getElem?_eq_some_iff.1 hj).1; rwa [flI_len] at this
  obtain ⟨b, off, e, _, hc⟩ := PlayC.Row.at h j hlt
  simp only [Option.some.injEq, Addr.mk.injEq, and_true] at e
  obtain ⟨rfl, rfl⟩ := e
  have ha : (⟨pb, po, none⟩ : Addr).add j = ⟨pb, po + j, none⟩ := by by_cases h0 : j = 0 <;> simp [Addr.add, h0]
  rw [ha, hc]
  simp only [flI, List.getElem?_map] at hj
  simpa [List.getD, hlt] using hj
theorem eqNilI (w : World) (a : Option Addr) (n c n' c' : Nat) : (binOp .eql 23 (.slice a n c) (.slice none n' c')).run Try.prog w = .ok (.bool a.isNone) w := Lib.run_eql_slice_nil w _ _ a n c n' c' Try.underlying23
set_option maxRecDepth 20000 in
theorem cloneI_any (b off cap : Nat) (l : List Int) (w : World) (h : Row w (some ⟨b, off, none⟩) l) (hl : l.length ≤ 1000) :
    Calls Try.prog 44 #[.slice (some ⟨b, off, none⟩) l.length cap] w fun e w' => (∃ v, e = .returned v ∧ OwnI w' w.heap.size v l) ∧ Below w.heap.size w w' := by
  obtain ⟨i0, hi, hz0, hz1, hz2⟩ := info_parts infoInt
  have Hi := hid hi
  have Hz0 := hid hz0
  have Hz1 := hid hz1
  have Hz2 := hid hz2
  clear hi hz0 hz1 hz2
  have q := eqNilI
  have HA := hid h
  have HL := hid hl
  clear h hl
  go_enter Try.func44, Try.ntmps44
  go_wp2_with (at_builtin; refine wpList_append_own _ rfl _ _ 23 rfl w.heap.size 3 i0 (.int .i64 0) 1 8 Try.underlying23 Hi.out Hz0.out Hz1.out Hz2.out rfl (by decide) _ _ _ rfl (World.ownsRow_made w #[] 0 (Nat.le_refl _) (Nat.zero_le _) rfl) ⟨b, off, none⟩ l.length cap (flI l) rfl ?qc1 ?qc2 ?qc3 ?qc4 ?qc5 ?qc6 ?_)
  case qc1 => rw [flI_len, Nat.mul_one]
  case qc2 => exact row_news (Row.below HA.out (Below.alloc (Below.refl _ _) (Nat.le_refl _) _) (Nat.le_refl _))
  case qc3 => exact flI_one l
  case qc4 => have := HL.out; unfold maxLen; omega
  case qc5 => have := HL.out; omega
  case qc6 => simp
  intro v' w1 hown hgrow hnil
  have HO : Hid (OwnI w1 w.heap.size v' l) := by
    show w1.ownsRow _ _ _ _ _ _
    simpa [flI] using hown
  have HB := hid (Below.grown (Below.alloc (Below.refl _ w) (Nat.le_refl _) _) hgrow (by simp) (by intro k hk; simp [Value.ownBlock] at hk; omega))
  obtain ⟨a, n, c, rfl⟩ := OwnI.slice (show OwnI _ _ _ _ from HO.out)
  clear hown hgrow hnil
  go_wp2
  go_ret
  exact ⟨⟨_, rfl, HO.out⟩, HB.out⟩
theorem owni_snoc {w : World} {B n : Nat} {v : Value} {Z Y : List Int} (h : w.ownsRow B 3 1 v n (flI Z ++ flI Y)) (hn : n = Z.length + Y.length) : OwnI w B v (Z ++ Y) := by
  subst hn
  unfold OwnI
  rw [List.length_append, List.map_append]
  exact h
end RankC
end Go.Proofs.Ytnbfadfhpegddaa

/- Contract of the document's own answer: FoundOrder (the walk). -/
set_option linter.unusedVariables false
namespace Go.Proofs.Ytnbfadfhpegddaa
open Go.RowKit hiding tok
open Go.Shelf Go.Sort
open SpanM SupM SpanC TaskM PlayM RankM
open RowsO hiding Tk
namespace RankC
open TaskC (tchk tchkG tchk_zero tchk_of tchk_bd tcheck_any tk_snoc tk_mem)
open NumC (Row)
open RepC (OwnI.row OwnI.set OwnI.frozen OwnI.base' OwnI.made made_zero rchk rchk_zero repV rreplyOf_any)
open PlayC (Row.below box_cell box_alloc box_new)
theorem wpList_appendI {ops : Array Oper} {rest : List Oper} {o : Oper} {a : Act} {Q : Exit → Act → World → Prop} {w : World} (hgd : o.guard = none) (s x : Operand)
    (ho : o.op = .call { callee := .builtin .append, args := #[s, x], argTypes := #[23, 23] })
    (B : Nat) (v : Value) (l m : List Int) (sa : Addr) (len cap : Nat) (hs : a.eval s = v) (hown : OwnI w B v l) (hx : a.eval x = .slice (some sa) len cap) (hlen : len = m.length) (hm : ∀ j u, (flI m)[j]? = some u → w.cell? (sa.add j) = some u)
    (hl : l.length + m.length ≤ 1000) (hB : B ≤ w.heap.size)
    (h : ∀ v' w', OwnI w' B v' (l ++ m) → w.grownBy w' v.ownBlock → wpList Try.prog ops Q rest (a.put o.dst v') w') : wpList Try.prog ops Q (o :: rest) a w := by
  obtain ⟨i0, hi, hz0, hz1, hz2⟩ := info_parts infoInt
  subst hlen
  refine wpList_append_own _ hgd s x 23 ho B 3 i0 (.int .i64 0) 1 8 Try.underlying23 hi hz0 hz1 hz2 rfl (by decide) v l.length (flI l) hs hown sa m.length cap (flI m) hx (by rw [flI_len, Nat.mul_one]) hm (flI_one m) (by unfold maxLen; omega) (by omega) hB ?_
  intro v' w' h1 h2 _
  exact h v' w' (owni_snoc h1 rfl) h2
theorem take_mid (l : List Int) {k : Nat} (h : k < l.length) : l = l.take k ++ l.getD k 0 :: l.drop (k + 1) := by
  conv => lhs; rw [← List.take_append_drop k l, List.drop_eq_getElem_cons h]
  simp [List.getD, h]
theorem row_take {w : World} {p off : Nat} {l : List Int} (h : Row w (some ⟨p, off, none⟩) l) (k : Nat) : Row w (some ⟨p, off, none⟩) (l.take k) := by
  rcases h with rfl | ⟨b, o, e, h⟩
  · exact .inl (by simp)
  · refine .inr ⟨b, o, e, fun i hi => ?_⟩
    have h1 : i < k ∧ i < l.length := by simp [List.length_take] at hi; omega
    rw [h i h1.2]
    simp [List.getD, h1.1]
theorem row_drop {w : World} {p off : Nat} {l : List Int} (h : Row w (some ⟨p, off, none⟩) l) (j : Nat) : ∀ t u, (flI (l.drop j))[t]? = some u → w.cell? ((⟨p, off + j, none⟩ : Addr).add t) = some u := by
  intro t u hu
  have ht : t < (l.drop j).length := by have := (List.getElem?_eq_some_iff.1 hu).1; rwa [flI_len] at this
  rw [List.length_drop] at ht
  obtain ⟨b, o, e, _, hc⟩ := PlayC.Row.at h (j + t) (by omega)
  simp only [Option.some.injEq, Addr.mk.injEq, and_true] at e
  obtain ⟨rfl, rfl⟩ := e
  have ha : (⟨p, off + j, none⟩ : Addr).add t = ⟨p, off + (j + t), none⟩ := by
    by_cases h0 : t = 0
    · simp [Addr.add, h0]
    · simp [Addr.add, h0]; omega
  rw [ha, hc]
  simp only [flI, List.getElem?_map, List.getElem?_drop] at hu
  simpa [List.getD, show j + t < l.length by omega] using hu
theorem owni_row {w : World} {B : Nat} {v : Value} {l : List Int} (h : OwnI w B v l) : ∃ a cap, v = .slice a l.length cap ∧ Row w a l ∧ l.length ≤ cap := by
  obtain ⟨a, cap, rfl, hr, _⟩ := OwnI.row h
  rcases h.form with ⟨e, rfl⟩ | ⟨g, c, e, _, _, h1, _⟩
  · exact ⟨a, cap, rfl, hr, Nat.zero_le _⟩
  · simp only [Value.slice.injEq] at e
    obtain ⟨rfl, _, rfl⟩ := e
    exact ⟨_, _, rfl, hr, h1⟩
/-- none of the first k may go last -/
def NoneTo (S : Int → Int) (l : List Tk) (left : List Int) (k : Nat) : Prop := ∀ u i v, left = u ++ i :: v → u.length < k → ¬ Rep S (ord l (u ++ v)) (RankM.get l i)
theorem NoneTo.zero (S : Int → Int) (l : List Tk) (left : List Int) : NoneTo S l left 0 := fun u i v _ h => by omega
theorem NoneTo.next {S : Int → Int} {l : List Tk} {left : List Int} {k : Nat} (h : NoneTo S l left k) (hk : k < left.length) (hn : ¬ Rep S (ord l (left.take k ++ left.drop (k + 1))) (RankM.get l (left.getD k 0))) : NoneTo S l left (k + 1) := by
  intro u i v e hl
  by_cases c : u.length < k
  · exact h u i v e c
  · have hk2 : u.length = k := by omega
    subst hk2
    have e1 : left.take u.length = u := by rw [e]; simp
    have e2 : left.drop (u.length + 1) = v := by rw [e]; simp
    have e3 : left.getD u.length 0 = i := by rw [e]; simp [List.getD]
    rw [e1, e2, e3] at hn
    exact hn
theorem NoneTo.hit {S : Int → Int} {l : List Tk} {left : List Int} {k : Nat} (h : NoneTo S l left k) (hk : k < left.length) (hn : Rep S (ord l (left.take k ++ left.drop (k + 1))) (RankM.get l (left.getD k 0))) {r : Option (List Int)} (hf : RankM.Found S l (left.take k ++ left.drop (k + 1)) r) : RankM.Found S l left (r.map fun o => o ++ [left.getD k 0]) := by
  have e := take_mid left hk
  have := RankM.Found.step (S := S) (l := l) (u := left.take k) (v := left.drop (k + 1)) (i := left.getD k 0) (r := r) (fun u' j v' e' hl => h u' j v' (e.trans e') (by rw [List.length_take] at hl; omega)) hn hf
  rw [← e] at this
  exact this
theorem NoneTo.all {S : Int → Int} {l : List Tk} {left : List Int} (h : NoneTo S l left left.length) (hne : left ≠ []) : RankM.Found S l left none :=
  .no hne (fun u j v e => h u j v e (by rw [e]; simp))
/-- what FoundOrder tells -/
def FoP (S : Int → Int) (l : List Tk) (left : List Int) (B : Nat) (e : Ending) (w' : World) : Prop :=
  ∃ r v o, RankM.Found S l left r ∧ e = .returned (.tuple #[v, .bool r.isSome]) ∧ OwnI w' B v o ∧ o.length ≤ left.length ∧ ∀ q, r = some q → o = q
theorem FoP.step {S : Int → Int} {l : List Tk} {left : List Int} {k : Nat} (h : NoneTo S l left k) (hk : k < left.length) (hn : Rep S (ord l (left.take k ++ left.drop (k + 1))) (RankM.get l (left.getD k 0))) {r : Option (List Int)} (hf : RankM.Found S l (left.take k ++ left.drop (k + 1)) r) {o : List Int} (ho : o.length ≤ (left.take k ++ left.drop (k + 1)).length) (hq : ∀ q, r = some q → o = q) {w' : World} {B : Nat} {v : Value} (hv : OwnI w' B v (o ++ [left.getD k 0])) :
    FoP S l left B (.returned (.tuple #[v, .bool r.isSome])) w' := by
  refine ⟨_, v, _, h.hit hk hn hf, ?_, hv, ?_, fun q hq' => ?_⟩
  · cases r <;> rfl
  · simp only [List.length_append, List.length_take, List.length_drop, List.length_singleton] at ho ⊢; omega
  · cases r with
    | none => simp at hq'
    | some q' =>
      simp only [Option.map_some, Option.some.injEq] at hq'
      rw [← hq', hq q' rfl]
set_option maxRecDepth 20000 in
set_option maxHeartbeats 1600000 in
theorem FoundOrder_any (l : List Tk) (size : Int) (sl : List Sp) (a c : Option Addr) (ca cc : Nat) (h1 : tchk l = 0) (h3 : chk size sl = 0) (hca : l.length ≤ ca) : ∀ (n : Nat) (left : List Int) (b : Option Addr) (cb : Nat) (w : World), left.length = n → n ≤ 16 → Tks w a l → Row w b left → Sps w c sl → n ≤ cb → (∀ i ∈ left, 0 ≤ i ∧ i < (l.length : Int)) →
    Calls Try.prog 24 #[.slice a l.length ca, .slice b n cb, .agg #[.int .i64 size, .slice c sl.length cc]] w fun e w' => FoP (lst size sl) l left w.heap.size e w' ∧ Below w.heap.size w w' := by
  intro n
  induction n with
  | zero =>
    intro left b cb w hln _ _ _ _ _ _
    have h0 : left = [] := List.length_eq_zero_iff.1 hln
    subst h0
    clear hln
    go_enter Try.func24, Try.ntmps24
    go_wp2_with fail
    go_ret2
    exact ⟨⟨some [], .slice none 0 0, [], .nil, rfl, World.ownsRow_nil _ _ _ _, Nat.le_refl _, fun q hq => by simpa using hq⟩, (B1.start w _ _).bel⟩
  | succ n ih =>
    intro left b cb w hln hn hr hr2 hs hcb hR
    have hl := (tchk_zero h1).1
    have HIH := hid ih
    have HTR := hid (fun (W : World) (h : Below w.heap.size w W) => hr.below h (Nat.le_refl _))
    have HRR := hid (fun (W : World) (h : Below w.heap.size w W) => Row.below hr2 h (Nat.le_refl _))
    have HSS := hid (fun (W : World) (h : Below w.heap.size w W) => hs.below h (Nat.le_refl _))
    have HRI := hid (fun k (hk : k < left.length) => hR _ (PlayC.in_mem hk))
    have HRS := hid (fun k (hk : k < left.length) => (fun i hi => hR i (by rw [take_mid left hk]; simp at hi ⊢; rcases hi with h | h <;> simp [h]) : ∀ i ∈ left.take k ++ left.drop (k + 1), 0 ≤ i ∧ i < (l.length : Int)))
    have HGET := hid (fun i (h : i < l.length) => get_at l h)
    have HALL := hid (fun (h : NoneTo (lst size sl) l left left.length) => h.all (by intro e; subst e; simp at hln))
    have HLEN := hid (fun k (hk : k < left.length) => (by simp; omega : (left.take k ++ left.drop (k + 1)).length = n))
    have HLN := hid hln
    have hbs : ∃ p off, b = some ⟨p, off, none⟩ := by
      obtain ⟨p, off, e, _⟩ := PlayC.Row.at hr2 0 (by omega)
      exact ⟨p, off, e⟩
    obtain ⟨p, off, rfl⟩ := hbs
    obtain ⟨N, hN⟩ : ∃ N, N = n + 1 := ⟨_, rfl⟩
    rw [← hN] at hln hn hcb ⊢
    have HN := hid hN
    have hN0 : ((N : Int) == 0) = false := by simp; omega
    obtain ⟨i0, hi, hz0, hz1, hz2⟩ := info_parts infoInt
    have Hi := hid hi
    have Hz0 := hid hz0
    have Hz1 := hid hz1
    have Hz2 := hid hz2
    have HLNN := hid hln
    clear hr hr2 hs hR hln ih hN hi hz0 hz1 hz2
    go_enter Try.func24, Try.ntmps24
    go_wp2_with fail
    go_loopw [18] (fun v18 wr => ∃ k : Nat, k ≤ N ∧ v18 = .int .i64 k ∧ NoneTo (lst size sl) l left k ∧ B1 w wr #[.int .i64 size, .slice c sl.length cc] 26) (fun v18 _ => N - (intOf v18).toNat)
    case atStart => exact ⟨0, by omega, rfl, NoneTo.zero _ _ _, B1.start _ _ _⟩
    case round =>
      obtain ⟨k, hk, rfl, hno, hb⟩ := hrel
      have HNO := hid hno
      have HB := hid hb
      by_cases hlt : k < N
      · have hkl : k < left.length := by have := HLNN.out; omega
        have hrow := HRR.out wr hb.bel
        obtain ⟨p', off', e', _, d1⟩ := PlayC.Row.at hrow k hkl
        simp only [Option.some.injEq, Addr.mk.injEq, and_true] at e'
        obtain ⟨rfl, rfl⟩ := e'
        obtain ⟨x0, x1⟩ := HRI.out k hkl
        have HCLN := hid (fun (W : World) (h : Below wr.heap.size wr W) => cloneI_any p off cb (left.take k) W (Row.below (row_take hrow k) h (Nat.le_refl _)) (by rw [List.length_take]; omega))
        have hlt1 : (left.take k).length = k := by rw [List.length_take]; omega
        rw [hlt1] at HCLN
        have HDR := hid (fun (W : World) (h : Below wr.heap.size wr W) => row_drop (Row.below hrow h (Nat.le_refl _)) (k + 1))
        have HDL := hid (show (flI (left.drop (k + 1))).length = (N - (k + 1)) * 1 by rw [flI_len, List.length_drop, HLNN.out, Nat.mul_one])
        have HD1 := hid (flI_one (left.drop (k + 1)))
        have HTK := hid hlt1
        clear hno hb hrow hlt1
        obtain ⟨J, hJ⟩ : ∃ J, J = k + 1 := ⟨_, rfl⟩
        rw [← hJ] at HDR HDL HD1
        have hkJ : (k : Int) + 1 = (J : Int) := by omega
        have hJN : J ≤ N := by omega
        have hJN2 : (J : Int) ≤ (N : Int) := by omega
        have hJc : J ≤ cb := by omega
        have hkc : k ≤ cb := by omega
        have hkN : (k : Int) < (N : Int) := by omega
        have hwJ : IntKind.i64.wrap (J : Int) = (J : Int) := by rw [IntKind.wrap_i64]; omega
        have hwk : IntKind.i64.wrap ((k : Int) + 1) = (J : Int) := by rw [IntKind.wrap_i64]; omega
        have hJ0 : (0 : Int) ≤ (J : Int) := by omega
        have hJcI : (J : Int) ≤ (cb : Int) := by omega
        have hkcI : (k : Int) ≤ (cb : Int) := by omega
        have hNcI : (N : Int) ≤ (cb : Int) := by omega
        obtain ⟨A, hA, hsrc⟩ : ∃ A : Addr, (if cb = J then some (⟨p, off, none⟩ : Addr) else some ⟨p, off + J, none⟩) = some A ∧ Hid (∀ (W : World), Below wr.heap.size wr W → ∀ t u, (flI (left.drop J))[t]? = some u → W.cell? (A.add t) = some u) := by
          by_cases hc : cb = J
          · refine ⟨⟨p, off, none⟩, by simp [hc], fun W hW t u hu => ?_⟩
            have h0 : (flI (left.drop J)).length = 0 := by rw [HDL.out]; omega
            have := (List.getElem?_eq_some_iff.1 hu).1
            omega
          · exact ⟨⟨p, off + J, none⟩, by simp [hc], fun W hW => HDR.out W hW⟩
        have HJ := hid hJ
        clear hJ HDR
        have k3 : k + (N - J) ≤ maxLen := by unfold maxLen; omega
        have k4 : (k + (N - J)) * 8 ≤ 140737488355328 := by omega
        have HTL := hid (fun (W : World) (v : Value) (h : OwnI W wr.heap.size v (left.take k)) => (by
          have := h
          unfold OwnI at this
          rw [HTK.out] at this
          exact this : W.ownsRow wr.heap.size 3 1 v k (flI (left.take k))))
        obtain ⟨rest, hrest⟩ : ∃ rest, rest = left.take k ++ left.drop J := ⟨_, rfl⟩
        have HRES := hid (fun (W : World) (v : Value) (h : W.ownsRow wr.heap.size 3 1 v (k + (N - J)) (flI (left.take k) ++ flI (left.drop J))) => (by
          rw [hrest]
          refine owni_snoc h ?_
          rw [HTK.out, List.length_drop, HLNN.out] : OwnI W wr.heap.size v rest))
        have HRLEN := hid (show rest.length = n by rw [hrest, HJ.out]; exact HLEN.out k (by have := HLNN.out; omega))
        have HRS := hid (show ∀ i ∈ rest, 0 ≤ i ∧ i < (l.length : Int) by rw [hrest, HJ.out]; exact HRS.out k (by have := HLNN.out; omega))
        have HNX := hid (fun (h : ¬ Rep (lst size sl) (ord l rest) (RankM.get l (left.getD k 0))) => HNO.out.next (by have := HLNN.out; omega) (by rw [hrest, HJ.out] at h; exact h))
        have HFP := hid (fun (h : Rep (lst size sl) (ord l rest) (RankM.get l (left.getD k 0))) (r : Option (List Int)) (hf : RankM.Found (lst size sl) l rest r) (o : List Int) (ho : o.length ≤ rest.length) (hq : ∀ q, r = some q → o = q) (w' : World) (B : Nat) (v : Value) (hv : OwnI w' B v (o ++ [left.getD k 0])) => (by
          rw [hrest, HJ.out] at h hf ho
          exact FoP.step HNO.out (by have := HLNN.out; omega) h hf ho hq hv : FoP (lst size sl) l left B (.returned (.tuple #[v, .bool r.isSome])) w'))
        clear hrest
        generalize left.getD k 0 = x at *
        obtain ⟨i, rfl⟩ : ∃ i : Nat, x = i := ⟨x.toNat, by omega⟩
        generalize flI (left.drop J) = NW at *
        generalize flI (left.take k) = TT at *
        go_wp2_with fail
        go_region_held3 (fun W => True) (trivial)
          (first
            | (go_at_call 44
               refine (HCLN.out _ ?_).mono ?_
               · exact (Below.refl _ _).drew
               rintro e w2 ⟨⟨v2, rfl, ho2⟩, b2⟩)
            | (refine step_append_own rfl _ _ _ (by rfl) wr.heap.size 3 i0 (.int .i64 0) 1 8 Try.underlying23 Hi.out Hz0.out Hz1.out Hz2.out rfl (by decide) _ k TT (by rfl) (HTL.out _ _ ho2) A (N - J) (cb - J) NW (by rfl) HDL.out ?_ HD1.out k3 k4 ?_ ?_
               · exact hsrc.out _ (((Below.refl wr.heap.size wr).drew).trans b2)
               · exact b2.size
               intro v3 w3 hown hgrow hnil))
        have HB3 := hid (HB.out.step ((((Below.refl wr.heap.size wr).drew).trans b2).trans (Below.grown (Below.refl wr.heap.size w2) hgrow b2.size (fun g hg => (World.ownsRow.lt ho2 g hg).1))))
        obtain ⟨ar, cr, hv3, hr3, hcr⟩ := owni_row (HRES.out w3 v3 hown)
        rw [HRLEN.out] at hv3 hcr
        have HCR := hid hcr
        clear hcr
        subst hv3
        have hr3' := hr3
        have HR3 := hid hr3
        have HOD := hid (fun (W : World) (h : Below w3.heap.size w3 W) => (by
          have := Ordered_any l rest a ar ca cr W (HTR.out W (bel_of HB3.out.bel h)) (Row.below hr3' h (Nat.le_refl _)) HRS.out (by rw [HRLEN.out]; have := HN.out; omega) hl
          rw [HRLEN.out] at this
          exact this : Calls Try.prog 21 #[.slice a l.length ca, .slice ar n cr] W fun e w' => (∃ v, e = .returned v ∧ OwnTk w' W.heap.size v (ord l rest)) ∧ Below W.heap.size W w'))
        have hin : i < l.length := by omega
        obtain ⟨q, off2, hqa, hqb, t1, t2, t3⟩ := (HTR.out w3 HB3.out.bel).at i hin
        have c0 := HB3.out.c0 0
        have c1 := HB3.out.c0 1
        simp at c0 c1
        clear hr3 hown hgrow hnil ho2 b2 hr3'
        subst hqa
        have HGX := hid (HGET.out i hin)
        generalize l.getD i zTk = t at *
        obtain ⟨t4, t5, t6⟩ := t
        simp only at t1 t2 t3
        obtain ⟨it0, hti, htz0, htz1, htz2⟩ := info_parts infoTk
        have Hti := hid hti
        have Htz0 := hid htz0
        have Htz1 := hid htz1
        have Htz2 := hid htz2
        have HOL := hid (show (ord l rest).length = n by rw [ord_len, HRLEN.out])
        have HRP := hid (fun (W : World) (v : Value) (ho : W.ownsRow w3.heap.size 38 3 v (n + 1) (flatTk (ord l rest) ++ [.int .i64 t4, .int .i64 t5, .int .i64 t6])) (h : Below w3.heap.size w3 W) => (by
          have ho2 : OwnTk W w3.heap.size v (ord l rest ++ [(t4, t5, t6)]) := by
            unfold OwnTk
            rw [flatTk_append, List.length_append, HOL.out]
            exact ho
          obtain ⟨am, cm, rfl, hm, hcm, _, _⟩ := OwnTk.rows' ho2
          have hlen2 : (ord l rest ++ [(t4, t5, t6)]).length = n + 1 := by rw [List.length_append, HOL.out]; rfl
          have ht : tchk (ord l rest ++ [(t4, t5, t6)]) = 0 := by
            refine tchk_of (by rw [hlen2]; have := HN.out; omega) ?_
            intro y hy
            rcases List.mem_append.1 hy with hy | hy
            · exact tok_ord (tchk_zero h1).2 HRS.out y hy
            · simp only [List.mem_singleton] at hy; subst hy; rw [← HGX.out]; exact (tchk_zero h1).2 _ (get_mem' hin)
          have := rreplyOf_any (ord l rest ++ [(t4, t5, t6)]) n size sl am c cm cc W hm (HSS.out W (bel_of HB3.out.bel h)) hcm ht h3 (by rw [hlen2]; omega)
          have hv : repV (ord l rest ++ [(t4, t5, t6)]) n size sl = rep (lst size sl) (ord l rest) (t4, t5, t6) := by
            unfold repV
            rw [← HOL.out]
            simp [List.getD]
          rw [hv] at this
          exact this : Calls Try.prog 37 #[v, .int .i64 n, .agg #[.int .i64 size, .slice c sl.length cc]] W fun e w' => e = .returned (.int .i64 (rep (lst size sl) (ord l rest) (t4, t5, t6))) ∧ Below W.heap.size W w'))
        have HOX := hid (fun (W : World) (B : Nat) (v : Value) (h : OwnTk W B v (ord l rest)) (hB : w3.heap.size ≤ B) => (by
          have h2 := OwnTk.base h hB
          unfold OwnTk at h2
          rw [HOL.out] at h2
          exact h2 : W.ownsRow w3.heap.size 38 3 v n (flatTk (ord l rest))))
        rw [HGX.out] at HNX HFP
        have HZ0 := hid (show 0 ≤ rep (lst size sl) (ord l rest) (t4, t5, t6) by rw [← HGX.out]; exact (rep_bd _ _ ((tchk_zero h1).2 _ (get_mem' hin))).1)
        have HZN := hid (fun (h : rep (lst size sl) (ord l rest) (t4, t5, t6) = 0) => HNX.out (fun hr => rep_iff.2 hr h))
        have HZY := hid (fun (h : rep (lst size sl) (ord l rest) (t4, t5, t6) ≠ 0) => HFP.out (rep_iff.1 h))
        have k5 : n + 1 ≤ maxLen := by have := HN.out; unfold maxLen; omega
        have k6 : (n + 1) * 24 ≤ 140737488355328 := by have := HN.out; omega
        have hn16 : n ≤ 16 := by have := HN.out; omega
        have k1 : ∀ u ∈ ([.int .i64 t4, .int .i64 t5, .int .i64 t6] : List Value), u.oneCell' = true := by intro u hu; simp at hu; rcases hu with rfl | rfl | rfl <;> rfl
        generalize rep (lst size sl) (ord l rest) (t4, t5, t6) = z at *
        generalize ord l rest = M at *
        clear hti htz0 htz1 htz2 HNX HFP
        have K1 := hid k1
        generalize hFL : flatTk M = FL at *
        clear hFL k1
        have hiI : (i : Int) < (l.length : Int) := by omega
        have hi0 : (0 : Int) ≤ (i : Int) := by omega
        have hwb : w.heap.size < w3.heap.size := by have := HB3.out.size; omega
        have FF := hid (fun (W : World) (h : Below w3.heap.size w3 W) => (⟨(h.cell hqb).trans t1, (h.cell hqb).trans t2, (h.cell hqb).trans t3, (h.cell hwb).trans c0, (h.cell hwb).trans c1⟩ : W.cell? ⟨q, off2 + i * 3, none⟩ = some (.int .i64 t4) ∧ W.cell? ⟨q, off2 + i * 3 + 1, none⟩ = some (.int .i64 t5) ∧ W.cell? ⟨q, off2 + i * 3 + 2, none⟩ = some (.int .i64 t6) ∧ W.cell? ⟨w.heap.size, 0, none⟩ = some (.int .i64 size) ∧ W.cell? ⟨w.heap.size, 1, none⟩ = some (.slice c sl.length cc)))
        clear hqb hwb
        go_wp2_with fail
        go_region_held3 (fun W => W.cell? ⟨q, off2 + i * 3, none⟩ = some (.int .i64 t4) ∧ W.cell? ⟨q, off2 + i * 3 + 1, none⟩ = some (.int .i64 t5) ∧ W.cell? ⟨q, off2 + i * 3 + 2, none⟩ = some (.int .i64 t6) ∧ W.cell? ⟨w.heap.size, 0, none⟩ = some (.int .i64 size) ∧ W.cell? ⟨w.heap.size, 1, none⟩ = some (.slice c sl.length cc)) (go_keep)
          (first
            | (go_at_call 21
               refine (HOD.out _ ?_).mono ?_
               · first | exact (Below.refl _ _).drew | exact ((Below.refl _ _).alloc (Nat.le_refl _) _).drew | (trace_state; fail)
               rintro e w4 ⟨⟨v4, rfl, ho4⟩, b4⟩
               have hb4 : Below w3.heap.size w3 w4 := by first | exact ((Below.refl _ _).drew).trans b4 | exact (((Below.refl w3.heap.size w3).alloc (Nat.le_refl _) _).drew).trans (b4.mono (by simp))
               have ho5 := HOX.out _ _ _ ho4 (by first | exact Nat.le_refl _ | simp)
               try have hn4 : w4.heap[w3.heap.size]? = some (.cells #[.int .i64 t4, .int .i64 t5, .int .i64 t6] 38) := (b4.block w3.heap.size (by simp)).trans (heap_alloc_new w3 _)
               obtain ⟨e0, e1, e2, e3, e4⟩ := FF.out _ hb4)
            | (go_at_call 37
               refine HRC.out.mono ?_
               rintro e w6 ⟨rfl, b6⟩
               have hb6 := bel_of hb5 b6
               obtain ⟨e0, e1, e2, e3, e4⟩ := FF.out _ hb6)
            | (refine step_append_own rfl _ _ _ (by rfl) w3.heap.size 38 it0 (.agg #[.int .i64 0, .int .i64 0, .int .i64 0]) 3 24 Try.underlying22 Hti.out Htz0.out Htz1.out Htz2.out rfl (by decide) _ n FL (by rfl) ho5 ⟨w3.heap.size, 0, none⟩ 1 1 [.int .i64 t4, .int .i64 t5, .int .i64 t6] (by rfl) (by rfl) (World.news_of_block hn4) K1.out k5 k6 hb4.size ?_
               intro v5 w5 hown hgrow hnil
               have hb5 : Below w3.heap.size w3 w5 := hb4.grown hgrow hb4.size (fun g hg => (World.ownsRow.lt ho5 g hg).1)
               have HRC := hid (HRP.out _ _ hown hb5)
               obtain ⟨e0, e1, e2, e3, e4⟩ := FF.out _ hb5)
            | (refine step_append_own rfl _ _ _ (by rfl) w3.heap.size 38 it0 (.agg #[.int .i64 0, .int .i64 0, .int .i64 0]) 3 24 Try.underlying22 Hti.out Htz0.out Htz1.out Htz2.out rfl (by decide) _ n FL (by rfl) (World.ownsRow.alloc ho5 _) ⟨w4.heap.size, 0, none⟩ 1 1 [.int .i64 t4, .int .i64 t5, .int .i64 t6] (by rfl) (by rfl) (World.news_of_block (heap_alloc_new w4 _)) K1.out k5 k6 (by rw [World.size_alloc]; have := hb4.size; omega) ?_
               intro v5 w5 hown hgrow hnil
               have hb5 : Below w3.heap.size w3 w5 := (hb4.alloc hb4.size _).grown hgrow (by rw [World.size_alloc]; have := hb4.size; omega) (fun g hg => (World.ownsRow.lt ho5 g hg).1)
               have HRC := hid (HRP.out _ _ hown hb5)
               obtain ⟨e0, e1, e2, e3, e4⟩ := FF.out _ hb5))
        all_goals
          have HB6 := hid (HB3.out.step hb6)
          have HR6 := hid (Row.below HR3.out hb6 (Nat.le_refl _))
          have hnow : w.heap.size ≤ w6.heap.size := HB6.out.bel.size
          have HSZ6 := hid hnow
          have HQ6 := hid (HIH.out rest ar cr w6 HRLEN.out hn16 (HTR.out w6 HB6.out.bel) HR6.out (HSS.out w6 HB6.out.bel) HCR.out HRS.out)
          have hz0 := HZ0.out
          clear e0 e1 e2 hb4 hb5 hb6 b4 b6 ho4 ho5 hown hgrow hnil hnow HRC FF t1 t2 t3 c0 c1
          by_cases hz : z = 0
          · have HNN := hid (HZN.out hz)
            have hz1 : ¬ 0 < z := by omega
            clear hz hz0 e3 e4
            go_wp2_with fail
            go_roundw
            case rel => exact ⟨k + 1, by omega, by go_num, HNN.out, HB6.out⟩
            case measure => simp [intOf]; omega
          · have HYY := hid (HZY.out hz)
            have hz1 : 0 < z := by omega
            clear hz hz0
            go_wp2_with fail
            refine HQ6.out.mono ?_
            rintro e w7 ⟨⟨r, v7, o7, hf7, rfl, ho7, hl7, hq7⟩, b7⟩
            have HF7 := hid hf7
            have HO7 := hid (OwnI.base' ho7 HSZ6.out)
            have HL7 := hid hl7
            have HQ7 := hid hq7
            have HB7 := hid (HB6.out.step b7)
            have hsz7 := HB7.out.bel.size
            have HSZ7 := hid hsz7
            clear hf7 ho7 hl7 hq7 b7 e3 e4 hsz7
            generalize hrs : r.isSome = rs at *
            have HRS7 := hid hrs
            clear hrs
            go_wp2_with (at_builtin; refine wpList_appendI rfl _ _ rfl w.heap.size _ o7 [(i : Int)] ⟨w7.heap.size, 0, none⟩ 1 1 rfl ?qc0 rfl rfl ?qc1 ?qc2 ?qc3 ?_)
            case qc0 => exact World.ownsRow.alloc HO7.out _
            case qc1 => exact World.news_of_block (heap_alloc_new w7 _)
            case qc2 => have := HL7.out; have := HRLEN.out; simp only [List.length_singleton]; omega
            case qc3 => have := HSZ7.out; rw [World.size_alloc]; omega
            intro v8 w8 hown8 hgrow8
            have HO8 := hid hown8
            have HB8 := hid (Below.grown (HB7.out.bel.alloc HSZ7.out (.cells #[.int .i64 i] 3)) hgrow8 (by have := HSZ7.out; rw [World.size_alloc]; omega) (fun g hg => (World.ownsRow.lt HO7.out g hg).1))
            clear hown8 hgrow8
            go_wp2_with fail
            go_ret2
            refine ⟨?_, HB8.out⟩
            have := HYY.out r HF7.out o7 HL7.out HQ7.out w8 w.heap.size v8 HO8.out
            rw [HRS7.out] at this
            exact this
      · obtain rfl : k = N := by omega
        have HNX := hid (by rw [← HLNN.out] at hno; exact HALL.out hno : RankM.Found (lst size sl) l left none)
        clear hno hb
        go_wp2_with fail
        go_ret2
        exact ⟨⟨none, .slice none 0 0, [], HNX.out, rfl, World.ownsRow_nil _ _ _ _, Nat.zero_le _, fun q hq => by simp at hq⟩, HB.out.bel⟩
end RankC
end Go.Proofs.Ytnbfadfhpegddaa
