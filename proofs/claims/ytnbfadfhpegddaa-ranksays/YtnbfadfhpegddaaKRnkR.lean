/- Several texts, one behind the other: RnkR. -/
import Derived.Test.YtnbfadfhpegddaaPkRl
import Derived.Test.YtnbfadfhpegddaaKRepR
import Derived.BigQuiet
/- Contracts of the document's own answers about orders: Ordered, GoodOrder, OrderBy. -/
set_option linter.unusedVariables false
namespace Go.Proofs.Ytnbfadfhpegddaa
open Go.RowKit hiding tok
open Go.Shelf Go.Sort
open SpanM SupM SpanC TaskM PlayM RankM
open RowsO hiding Tk
namespace RankC
open TaskC (tchk tchkG tchk_zero tchk_of tchk_bd tcheck_any tk_snoc tk_mem)
open NumC (Row)
open RepC (OwnI.row OwnI.set OwnI.frozen OwnI.base' OwnI.made made_zero rchk rchk_zero tbl tbl_len repV rreplyOf_any)
open PlayC (Row.below box_cell box_alloc box_new)
set_option maxRecDepth 20000 in
set_option maxHeartbeats 1600000 in
theorem Ordered_any (l : List Tk) (o : List Int) (a b : Option Addr) (ca cb : Nat) (w : World) (hr : Tks w a l) (hr2 : Row w b o) (hR : ∀ i ∈ o, 0 ≤ i ∧ i < (l.length : Int)) (hn : o.length ≤ 16) (hl : l.length ≤ 16) :
    Calls Try.prog 21 #[.slice a l.length ca, .slice b o.length cb] w fun e w' => (∃ v, e = .returned v ∧ OwnTk w' w.heap.size v (ord l o)) ∧ Below w.heap.size w w' := by
  have HR := hid hr
  have HR2 := hid hr2
  have HRI := hid (fun k (hk : k < o.length) => hR _ (PlayC.in_mem hk))
  have HSN := hid (fun k (hk : k < o.length) => (by rw [take_getD o k hk]; simp [ord] : ord l (o.take (k + 1)) = ord l (o.take k) ++ [RankM.get l (o.getD k 0)]))
  have HGET := hid (fun i (h : i < l.length) => get_at l h)
  have HALL := hid (List.take_of_length_le (Nat.le_refl o.length))
  have HLEN := hid (fun k => (by rw [ord_len, List.length_take]; omega : (ord l (o.take k)).length ≤ 16))
  clear hr hr2 hR
  go_enter Try.func21, Try.ntmps21
  go_wp2_with fail
  go_loopw [5, 10] (fun v5 v10 wr => ∃ k : Nat, k ≤ o.length ∧ v10 = .int .i64 k ∧ OwnTk wr w.heap.size v5 (ord l (o.take k)) ∧ Below w.heap.size w wr) (fun _ v10 _ => o.length - (intOf v10).toNat)
  case atStart => exact ⟨0, by omega, rfl, OwnTk.nil _ _, Below.refl _ _⟩
  case round =>
    obtain ⟨k, hk, rfl, ho, hb⟩ := hrel
    have HO := hid ho
    have HB := hid hb
    have HSZ := hid hb.size
    obtain ⟨a9, n9, k9, rfl⟩ := OwnTk.slice ho
    by_cases hlt : k < o.length
    · obtain ⟨p, off, rfl, _, d1⟩ := PlayC.Row.at (Row.below HR2.out hb (Nat.le_refl _)) k hlt
      have HFK := hid (HSN.out k hlt)
      obtain ⟨i0, i1⟩ := HRI.out k hlt
      generalize o.getD k 0 = y at *
      obtain ⟨i, rfl⟩ : ∃ i : Nat, y = i := ⟨y.toNat, by omega⟩
      have hin : i < l.length := by omega
      obtain ⟨q, off2, rfl, _, t1, t2, t3⟩ := (HR.out.below hb (Nat.le_refl _)).at i hin
      have hki : (k : Int) < (o.length : Int) := by omega
      rw [HGET.out i hin] at HFK
      generalize l.getD i zTk = t at *
      obtain ⟨t4, t5, t6⟩ := t
      simp only at t1 t2 t3
      clear ho hb
      go_wp2_with (at_builtin; refine wpList_appendTk rfl _ _ rfl w.heap.size _ (ord l (o.take k)) [(t4, t5, t6)] (some ⟨wr.heap.size, 0, none⟩) 1 1 rfl ?qc0 rfl rfl ?qc1 ?qc2 ?qc3 ?qc4 ?qc5 ?_)
      case qc0 => exact World.ownsRow.alloc HO.out _
      case qc1 =>
        refine .inr ⟨_, 0, rfl, fun j hj => ?_⟩
        have hb := box_new wr #[.int .i64 t4, .int .i64 t5, .int .i64 t6] 38
        match j, hj with
        | 0, _ => exact ⟨box_cell hb 0, box_cell hb 1, box_cell hb 2⟩
      case qc2 => simp
      case qc3 => have := HLEN.out k; unfold maxLen; simp only [List.length_singleton]; omega
      case qc4 => have := HLEN.out k; simp only [List.length_singleton]; omega
      case qc5 => have := HSZ.out; simp; omega
      intro v' w2 hown hgrow
      have HB2 := hid (Below.grown (HB.out.alloc HSZ.out (.cells #[.int .i64 t4, .int .i64 t5, .int .i64 t6] 38)) hgrow (by have := HSZ.out; simp; omega) (fun g hg => (World.ownsRow.lt HO.out g hg).1))
      rw [← HFK.out] at hown
      have HO2 := hid hown
      clear hown hgrow t1 t2 t3 d1
      go_wp2_with fail
      go_roundw
      case rel => exact ⟨k + 1, by omega, by go_num, HO2.out, HB2.out⟩
      case measure => simp [intOf]; omega
    · obtain rfl : k = o.length := by omega
      rw [HALL.out] at HO
      clear ho hb
      go_wp2_with fail
      go_ret
      exact ⟨⟨_, rfl, HO.out⟩, HB.out⟩
set_option maxRecDepth 20000 in
set_option maxHeartbeats 1600000 in
theorem GoodOrder_any (l : List Tk) (o : List Int) (size : Int) (sl : List Sp) (a b c : Option Addr) (ca cb cc : Nat) (w : World) (hr : Tks w a l) (hr2 : Row w b o) (hs : Sps w c sl) (h1 : tchk l = 0) (h2 : OrdP l.length o) (h3 : chk size sl = 0) :
    Calls Try.prog 22 #[.slice a l.length ca, .slice b o.length cb, .agg #[.int .i64 size, .slice c sl.length cc]] w fun e w' => e = .returned (.bool (decide ((0 : Int) ∉ tbl (ord l o) size sl o.length))) ∧ Below w.heap.size w w' := by
  have hl := (tchk_zero h1).1
  have hol := h2.1
  have HO := hid (fun (W : World) (h : Below w.heap.size w W) => Ordered_any l o a b ca cb W (hr.below h (Nat.le_refl _)) (Row.below hr2 h (Nat.le_refl _)) (fun i hi => h2.bd hi) (by omega) hl)
  have HM := hid (show (ord l o).length = o.length from ord_len l o)
  have ht := tchk_ord (o := o) h1 (fun i hi => h2.bd hi) (by omega)
  have HRP := hid (fun (i : Nat) (p : Option Addr) (k : Nat) (W : World) (h : Below w.heap.size w W) (hp : Tks W p (ord l o)) (hk : (ord l o).length ≤ k) (hi : i < (ord l o).length) => rreplyOf_any (ord l o) i size sl p c k cc W hp (hs.below h (Nat.le_refl _)) hk ht h3 hi)
  have HNO := hid (fun (i : Nat) (hi : i < o.length) (hz : repV (ord l o) i size sl = 0) => (by
    have : (0 : Int) ∈ tbl (ord l o) size sl o.length := by
      unfold tbl
      rw [List.mem_map]
      exact ⟨i, List.mem_range.2 (by rw [ord_len]; exact hi), by rw [if_pos hi, hz]⟩
    simpa using this : decide ((0 : Int) ∉ tbl (ord l o) size sl o.length) = false))
  have HYES := hid (fun (h : ∀ i, i < o.length → repV (ord l o) i size sl ≠ 0) => (by
    have : (0 : Int) ∉ tbl (ord l o) size sl o.length := by
      intro hm
      unfold tbl at hm
      rw [List.mem_map] at hm
      obtain ⟨i, hi, e⟩ := hm
      have hi := List.mem_range.1 hi
      rw [ord_len] at hi
      rw [if_pos hi] at e
      exact h i hi e
    simpa using this : decide ((0 : Int) ∉ tbl (ord l o) size sl o.length) = true))
  have hon : o.length ≤ 16 := by omega
  clear hr hr2 hs h1 h2 h3 ht hol
  generalize decide ((0 : Int) ∉ tbl (ord l o) size sl o.length) = G at *
  generalize ord l o = M at *
  go_enter Try.func22, Try.ntmps22
  go_wp2_with fail
  refine (HO.out _ (B1.start w _ _).bel).mono ?_
  rintro e w1 ⟨⟨v, rfl, ho⟩, b1⟩
  have HB1 := hid ((B1.start w #[.int .i64 size, .slice c sl.length cc] 26).step b1)
  obtain ⟨am, cm, rfl, hm, hcm, _, _⟩ := OwnTk.rows' ho
  have HT1 := hid hm
  have HCM := hid hcm
  clear ho b1 hm hcm
  generalize hmm : M.length = m at *
  have HMM := hid hmm
  clear hmm
  have hme : m = o.length := HM.out
  subst hme
  go_wp2_with fail
  go_loopw [14] (fun v14 wr => ∃ k : Nat, k ≤ o.length ∧ v14 = .int .i64 k ∧ Hid (∀ i, i < k → repV M i size sl ≠ 0) ∧ Tks wr am M ∧ B1 w wr #[.int .i64 size, .slice c sl.length cc] 26) (fun v14 _ => o.length - (intOf v14).toNat)
  case atStart => exact ⟨0, by omega, rfl, fun i h => by omega, HT1.out, HB1.out⟩
  case round =>
    obtain ⟨k, hk, rfl, HA, ht, hb⟩ := hrel
    have HT := hid ht
    have HB := hid hb
    by_cases hlt : k < o.length
    · have HRK := hid (HRP.out k am cm wr hb.bel ht HCM.out hlt)
      have HX := hid (HNO.out k hlt)
      have c0 := hb.c0 0
      have c1 := hb.c0 1
      simp at c0 c1
      have hki : (k : Int) < (o.length : Int) := by omega
      clear ht hb
      generalize hz : repV M k size sl = z at *
      have HZ := hid hz
      clear hz
      by_cases h0 : z = 0
      · have HG := hid (HX.out h0)
        have e0 : (z == 0) = true := by simp [h0]
        clear h0
        go_wp2_with fail
        refine HRK.out.mono ?_
        rintro e w2 ⟨rfl, b2⟩
        have HB2 := hid (HB.out.step b2)
        clear b2 c0 c1
        go_wp2_with fail
        go_ret
        exact ⟨by rw [HG.out]; rfl, HB2.out.bel⟩
      · have e0 : (z == 0) = false := by simp [h0]
        have HA2 : Hid (∀ i, i < k + 1 → repV M i size sl ≠ 0) := fun i hi => by
          by_cases c : i = k
          · subst c; rw [HZ.out]; exact h0
          · exact HA.out i (by omega)
        clear h0
        go_wp2_with fail
        refine HRK.out.mono ?_
        rintro e w2 ⟨rfl, b2⟩
        have HB2 := hid (HB.out.step b2)
        have HT2 := hid (HT.out.below b2 (Nat.le_refl _))
        clear b2 c0 c1
        go_wp2_with fail
        go_roundw
        case rel => exact ⟨k + 1, by omega, by go_num, HA2, HT2.out, HB2.out⟩
        case measure => simp [intOf]; omega
    · obtain rfl : k = o.length := by omega
      have HG := hid (HYES.out HA.out)
      clear ht hb
      go_wp2_with fail
      go_ret
      exact ⟨by rw [HG.out]; rfl, HB.out.bel⟩
set_option maxRecDepth 20000 in
set_option maxHeartbeats 3200000 in
theorem OrderBy_any (f : Nat) (key : Tk → Int) (hk : IsKey f key) (l : List Tk) (a : Option Addr) (ca : Nat) (w : World) (hr : Tks w a l) (hl : l.length ≤ 16) :
    Calls Try.prog 15 #[.slice a l.length ca, .func (.func f) #[] #[]] w fun e w' => (∃ v, e = .returned v ∧ OwnI w' w.heap.size v (ordBy (fun i => key (RankM.get l i)) l.length)) ∧ Below w.heap.size w w' := by
  have mixed := mixd
  have HR := hid hr
  have HK := hid hk
  have hcf := hk.1
  have HGET := hid (fun i (h : i < l.length) => get_at l h)
  have HKEY := hid (fun (i : Nat) (h : i < l.length) => (by rw [get_at l h] : key (RankM.get l i) = key (l.getD i zTk)))
  obtain ⟨κ, hκ⟩ : ∃ κ : Int → Int, κ = fun i => key (RankM.get l i) := ⟨_, rfl⟩
  have HKE := hid (fun (i : Nat) (h : i < l.length) => (by rw [hκ]; exact HKEY.out i h : κ i = key (l.getD i zTk)))
  have hq := ordBy_spec κ l.length
  rw [← hκ]
  clear hκ
  generalize ordBy κ l.length = q at *
  have HP0 := hid (placed_zero hq)
  have HPA := hid (placed_all hq)
  have HPS := hid (fun i (h : i < l.length) => placed_set hq h)
  have HPL := hid (fun i => (by rw [placed_len]; exact hq.1.1 : (placed q i).length = l.length))
  have HCL := hid (fun i (h : i < l.length) => (hq.cnt_lt h).1)
  have HCS := hid (fun (i : Int) (j : Nat) (h : j < l.length) => cntTo_succ κ i h)
  have HC0 := hid (fun (i : Int) => cntTo_zero κ l.length i)
  have HCA := hid (fun (i : Int) => cntTo_all κ l.length i)
  obtain ⟨i0, hi, hz0, hz1, hz2⟩ := info_parts infoInt
  have Hi := hid hi
  have Hz0 := hid hz0
  have Hz1 := hid hz1
  have Hz2 := hid hz2
  clear hr hk hq hi hz0 hz1 hz2
  generalize placed q = TB at *
  generalize hn : l.length = n at *
  have HN := hid hn
  clear hn
  go_enter Try.func15, Try.ntmps15
  go_wp2_with (at_make; refine wpList_make_full _ rfl _ _ 23 rfl w.heap.size 3 i0 (.int .i64 0) 1 Try.underlying23 Hi.out Hz0.out Hz1.out _ _ _ _ n rfl rfl ?qc1 ?qc2 ?qc3 ?qc4 ?qc5 ?_)
  case qc1 => rfl
  case qc2 => rfl
  case qc3 => rw [Hz2.out]; omega
  case qc4 => unfold maxLen; omega
  case qc5 => exact Nat.le_refl _
  intro w2 hown hgrow
  have HB2 := hid (Below.grown (Below.refl w.heap.size w) hgrow (Nat.le_refl _) (fun k hk => by simp at hk))
  have HO2 : Hid (OwnI w2 w.heap.size (vS w.heap.size n n) (TB 0)) := by
    show OwnI _ _ _ _
    rw [HP0.out]
    exact OwnI.made hown
  clear hown hgrow
  obtain ⟨g, hge⟩ : ∃ g, g = w.heap.size := ⟨_, rfl⟩
  rw [← hge] at HO2 HB2
  have HG := hid hge
  rw [← hge]
  clear hge
  go_wp2_with fail
  go_loopw [14] (fun v14 wr => ∃ i : Nat, i ≤ n ∧ v14 = .int .i64 i ∧ OwnI wr g (vS g n n) (TB i) ∧ Below g w wr) (fun v14 _ => n - (intOf v14).toNat)
  case atStart => exact ⟨0, by omega, rfl, HO2.out, HB2.out⟩
  case round =>
    obtain ⟨i, hi, rfl, ho, hb⟩ := hrel
    have HO := hid ho
    have HB := hid hb
    have HSZ := hid (show g ≤ wr.heap.size by have := HG.out; have := hb.size; omega)
    clear ho hb
    by_cases hlt : i < n
    · have hii : (i : Int) < (n : Int) := by omega
      go_wp2_with fail
      obtain ⟨w0, hw0⟩ : ∃ x, x = wr := ⟨_, rfl⟩
      subst hw0
      go_loopw [7, 19] (fun v7 v19 wr => ∃ j : Nat, j ≤ n ∧ v7 = .int .i64 (cntTo κ n i j : Nat) ∧ v19 = .int .i64 j ∧ Hid (cntTo κ n i j ≤ j) ∧ OwnI wr g (vS g n n) (TB i) ∧ Below g w wr) (fun _ v19 _ => n - (intOf v19).toNat)
      case atStart => exact ⟨0, by omega, by rw [HC0.out]; rfl, rfl, (show cntTo κ n i 0 ≤ 0 by rw [HC0.out]; exact Nat.le_refl _), HO.out, HB.out⟩
      case round =>
        obtain ⟨j, hj, rfl, rfl, HLE, ho, hb⟩ := hrel
        have HO3 := hid ho
        have HB3 := hid hb
        have HSZ3 := hid (show g ≤ wr.heap.size by have := HG.out; have := hb.size; omega)
        by_cases hjl : j < n
        · have hbw : Below w.heap.size w wr := by rw [← HG.out]; exact hb
          obtain ⟨p, off, rfl, hp, x0, x1, x2⟩ := (HR.out.below hbw (Nat.le_refl _)).at j (by have := HN.out; omega)
          obtain ⟨p', off', e', hp', y0, y1, y2⟩ := (HR.out.below hbw (Nat.le_refl _)).at i (by have := HN.out; omega)
          simp only [Option.some.injEq, Addr.mk.injEq, and_true] at e'
          obtain ⟨rfl, rfl⟩ := e'
          have HS := hid (HCS.out i j hjl)
          have kj := HKE.out j hjl
          have ki := HKE.out i hlt
          have gx0 := fun n os => cell_grown (a := ⟨p, off + j * 3, none⟩) hp x0 n os
          have gx1 := fun n os => cell_grown (a := ⟨p, off + j * 3 + 1, none⟩) hp x1 n os
          have gx2 := fun n os => cell_grown (a := ⟨p, off + j * 3 + 2, none⟩) hp x2 n os
          have gy0 := fun n os => cell_grown (a := ⟨p, off + i * 3, none⟩) hp y0 n os
          have gy1 := fun n os => cell_grown (a := ⟨p, off + i * 3 + 1, none⟩) hp y1 n os
          have gy2 := fun n os => cell_grown (a := ⟨p, off + i * 3 + 2, none⟩) hp y2 n os
          have hkj := hid (fun W => HK.out.2 (l.getD j zTk) W)
          have hki := hid (fun W => HK.out.2 (l.getD i zTk) W)
          rw [← kj] at hkj
          rw [← ki] at hki
          have hjj : (j : Int) < (n : Int) := by omega
          clear ho hb hbw x0 x1 x2 y0 y1 y2 hp hp' kj ki
          generalize l.getD j zTk = tj at *
          generalize l.getD i zTk = ti at *
          obtain ⟨m, e, d⟩ := tj
          obtain ⟨m', e', d'⟩ := ti
          simp only at gx0 gx1 gx2 gy0 gy1 gy2
          have hlex : Lex κ j i ↔ (κ j < κ i ∨ (κ j = κ i ∧ (j : Int) < (i : Int))) := Iff.rfl
          generalize κ j = xj at *
          generalize κ i = xi at *
          generalize hct : cntTo κ n i j = ct at *
          have hcase : (decide (xj < xi) = true ∧ cntTo κ n i (j + 1) = ct + 1) ∨ (decide (xj < xi) = false ∧ (xj == xi) = true ∧ (decide ((j : Int) < (i : Int)) = true ∧ decide (j < i) = true) ∧ cntTo κ n i (j + 1) = ct + 1) ∨ (decide (xj < xi) = false ∧ (xj == xi) = true ∧ (decide ((j : Int) < (i : Int)) = false ∧ decide (j < i) = false) ∧ cntTo κ n i (j + 1) = ct) ∨ (decide (xj < xi) = false ∧ (xj == xi) = false ∧ cntTo κ n i (j + 1) = ct) := by
            have hs := HS.out
            by_cases c1 : xj < xi
            · left; exact ⟨decide_eq_true c1, by rw [hs, if_pos (hlex.2 (.inl c1))]⟩
            · right
              by_cases c2 : xj = xi
              · by_cases c3 : (j : Int) < (i : Int)
                · left; exact ⟨decide_eq_false c1, by simp [c2], ⟨decide_eq_true c3, decide_eq_true (by omega)⟩, by rw [hs, if_pos (hlex.2 (.inr ⟨c2, c3⟩))]⟩
                · right; left; exact ⟨decide_eq_false c1, by simp [c2], ⟨decide_eq_false c3, decide_eq_false (by omega)⟩, by rw [hs, if_neg (fun h => by rcases hlex.1 h with h | h; exact c1 h; exact c3 h.2)]; rfl⟩
              · right; right; exact ⟨decide_eq_false c1, by simp [c2], by rw [hs, if_neg (fun h => by rcases hlex.1 h with h | h; exact c1 h; exact c2 h.1)]; rfl⟩
          have hct16 : ct ≤ 16 := by have := HLE.out; omega
          clear hlex HS hct
          rcases hcase with ⟨c1, hc⟩ | ⟨c1, c2, ⟨c3, c4⟩, hc⟩ | ⟨c1, c2, ⟨c3, c4⟩, hc⟩ | ⟨c1, c2, hc⟩
          all_goals
            have HCT := hid hc
            clear hc
            go_wp2_with fail
            refine wp_region_quiet_grown (by assumption) (by kernel_rfl) ?_
            repeat (first | go_big_quiet_step (first | (with_reducible exact Calls.grown_of (hkj.out _)) | (with_reducible exact Calls.grown_of (hki.out _))) | quiet_step (first | (with_reducible exact Calls.grown_of (hkj.out _)) | (with_reducible exact Calls.grown_of (hki.out _))))
            refine wpQuiet_nil ?_
            intro _ hw'
            obtain ⟨⟨nq, osq⟩, hw''⟩ := hw'
            subst hw''
            go_wp2_with fail
            go_roundw
            case rel =>
              have hle := HLE.out
              have hct2 := HCT.out
              exact ⟨j + 1, by omega, by first | (rw [hct2]; done) | (rw [hct2, Int.natCast_add]; rfl) | (rw [hct2]; go_num) | (trace_state; fail), by go_num, (show cntTo κ n i (j + 1) ≤ j + 1 by omega), owni_grow HO3.out _ _, below_grow HB3.out HSZ3.out _ _⟩
            case measure => simp [intOf]; omega
        · obtain rfl : j = n := by omega
          have HCC := hid (HCA.out i)
          have HCLT := hid (HCL.out i hlt)
          rw [HCC.out]
          have HST := hid (OwnI.set ho (by rw [HPL.out]) (cnt κ j i) (i : Int))
          have HPP := hid (HPS.out i hlt)
          have y0 := OwnI.cell ho (cnt κ j i) (by rw [HPL.out]; exact HCLT.out)
          have y1 := OwnI.frozen ho (by rw [HPL.out]) (cnt κ j i)
          have hc1 : ((cnt κ j i : Nat) : Int) < (j : Int) := by have := HCLT.out; omega
          clear ho hb
          generalize cnt κ j i = ct at *
          go_wp2_with fail
          obtain ⟨o4, g4⟩ := HST.out
          have HB4 := hid (Below.grown HB3.out g4 HSZ3.out (fun k hk => by simp at hk; omega))
          rw [HPP.out] at o4
          clear y0 y1 g4
          go_roundw
          case rel => exact ⟨i + 1, by omega, by go_num, o4, HB4.out⟩
          case measure => simp [intOf]; omega
    · obtain rfl : i = n := by omega
      rw [HPA.out] at HO
      go_wp2_with fail
      go_ret
      have ho := HO.out
      have hb := HB.out
      rw [HG.out] at ho hb
      exact ⟨⟨_, rfl, by rw [HG.out]; exact ho⟩, hb⟩
end RankC
end Go.Proofs.Ytnbfadfhpegddaa
