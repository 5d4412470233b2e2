/- Several texts, one behind the other: RepR. -/
import Derived.Test.YtnbfadfhpegddaaRepB
import Derived.Test.YtnbfadfhpegddaaPkRf
/- Contracts of the document's own answers about replies: NeedOf, ReplyOf. -/
set_option linter.unusedVariables false
namespace Go.Proofs.Ytnbfadfhpegddaa
open Go.RowKit hiding tok
open SpanM SupM SpanC TaskM PlayM RankM
open RowsO hiding Tk
namespace RepC
open TaskC (tchk tchk_zero tcheck_any tk_snoc tk_mem)
open NumC (Row)
theorem none_step {S : Int → Int} {p : List Tk} {x : Tk} {n : Int} (h : NoneB S p x n) (hn : ¬ Enough S p x n) : NoneB S p x (n + 1) := fun m h1 h2 he => by
  by_cases c : m < n
  · exact h m h1 c he
  · have : m = n := by omega
    subst this
    exact hn he
theorem none_hit {S : Int → Int} {p : List Tk} {x : Tk} {n : Int} (h : NoneB S p x n) (hn : Enough S p x n) : rep S p x = n :=
  (rep_eq (.inl ⟨hn, fun m hm he => h m he.1 hm he⟩)).symm
set_option maxRecDepth 20000 in
set_option maxHeartbeats 1600000 in
theorem needOf_any (l : List Tk) (i : Nat) (n : Int) (a : Option Addr) (ca : Nat) (w : World) (hr : Tks w a l) (hc : l.length ≤ ca) (hl : l.length ≤ 16) (hg : ∀ x ∈ l, tok x) (hi : i < l.length) (n1 : 1 ≤ n) (n2 : n ≤ 10000) :
    Calls Try.prog 53 #[.slice a l.length ca, .int .i64 i, .int .i64 n] w fun e w' => e = .returned (.int .i64 (need (l.take i) (l.getD i zTk) n)) ∧ Below w.heap.size w w' := by
  have HR := hid hr
  have HG := hid hg
  obtain ⟨b0, o0, rfl, hb0, z1, z2, z3⟩ := hr.at i hi
  have hm0 := hg _ (tk_mem hi)
  generalize l.getD i zTk = x at *
  obtain ⟨m0, e0, d0⟩ := x
  obtain ⟨p1, p2, p3, p4, p5, p6⟩ := hm0
  simp only at z1 z2 z3 p1 p2 p3 p4 p5 p6
  have ii : (i : Int) ≤ (l.length : Int) := by omega
  have ic : i ≤ ca := by omega
  have il : (i : Int) < (l.length : Int) := by omega
  have HN0 := hid (show need (l.take 0) (m0, e0, d0) n = m0 by rw [List.take_zero, need_nil])
  clear hr hg z2 z3
  go_enter Try.func53, Try.ntmps53
  go_wp2_with fail
  go_loopw [7, 19] (fun v7 v19 wr => ∃ (k : Nat) (c : Int), k ≤ i ∧ v7 = .int .i64 c ∧ v19 = .int .i64 k ∧ Hid (need (l.take k) (m0, e0, d0) n = c) ∧ 1 ≤ c ∧ c ≤ 10000 + k * 20000 ∧ Below w.heap.size w wr) (fun _ v19 _ => i - (intOf v19).toNat)
  case atStart => exact ⟨0, m0, by omega, rfl, rfl, HN0, by omega, by omega, Below.refl _ _⟩
  case round =>
    obtain ⟨k, c, hk, rfl, rfl, hA, c0, c1, hb⟩ := hrel
    have HB := hid hb
    have hsz := hb.size
    by_cases hlt : k < i
    · have hkl : k < l.length := by omega
      obtain ⟨b, off, hbe, hbw, d1, d2, d3⟩ := (HR.out.below hb (Nat.le_refl _)).at k hkl
      injection hbe with hbe
      injection hbe with hbe1 hbe2
      subst hbe1 hbe2
      have hd := tk_snoc l k hkl
      have hmem := HG.out _ (tk_mem hkl)
      have hki : (k : Int) < (i : Int) := by omega
      clear hb
      generalize l.getD k zTk = z at d1 d2 d3 hd hmem
      have hj := term_bd hmem n1 n2
      have HD0 := show need (l.take (k + 1)) (m0, e0, d0) n = c + z.1 * up n z.2.1 by rw [hd, need_snoc, hA.out]
      obtain ⟨m, e, d⟩ := z
      obtain ⟨q1, q2, q3, q4, q5, q6⟩ := hmem
      simp only at d1 d2 d3 q1 q2 q3 q4 q5 q6 hj HD0
      obtain ⟨j0, j1, j2, j3⟩ := hj
      clear hd
      have hup : up n e = -(-n / e) := rfl
      have HU := hid (fun W => (NumC.rfloor_any (-n) e W (by omega) (by omega) (by omega) (by omega)).mono fun e' w' h => (⟨h.1, by rw [h.2]; exact Below.refl _ _⟩ : e' = .returned (.int .i64 (-n / e)) ∧ Below W.heap.size W w'))
      rw [hup] at HD0 j0 j1 j2 j3
      generalize hJ : -n / e = J at *
      have hmj : m * -J = -(J * m) := by rw [Int.mul_neg, Int.mul_comm]
      rw [hmj] at HD0 j2 j3
      have HD := hid HD0
      have wr2 : IntKind.i64.wrap (J * m) = J * m := by
        generalize J * m = JM at *
        rw [IntKind.wrap_i64]; omega
      have wr1 : IntKind.i64.wrap (-n) = -n := by rw [IntKind.wrap_i64]; omega
      have wr3 : IntKind.i64.wrap (c - J * m) = c - J * m := by
        generalize J * m = JM at *
        rw [IntKind.wrap_i64]; omega
      have b1 : 1 ≤ c - J * m ∧ c - J * m ≤ c + 20000 := by
        generalize J * m = JM at *
        omega
      have HB1 := hid b1
      clear HD0 hup hmj b1 j0 j1 j2 j3
      go_wp2_with fail
      have hal : Below wr.heap.size wr (wr.alloc (.cells #[.int .i64 m, .int .i64 e, .int .i64 d] 38)) := (Below.refl _ _).alloc (Nat.le_refl _) _
      have y0 : (wr.alloc (.cells #[.int .i64 m, .int .i64 e, .int .i64 d] 38)).cell? ⟨wr.heap.size, 0, none⟩ = some (.int .i64 m) := World.cell?_alloc_at _ _ _ _ rfl
      have y1 : (wr.alloc (.cells #[.int .i64 m, .int .i64 e, .int .i64 d] 38)).cell? ⟨wr.heap.size, 1, none⟩ = some (.int .i64 e) := World.cell?_alloc_at _ _ _ _ rfl
      have LV := hid (bel_of HB.out hal)
      generalize wr.heap.size = xB at *
      generalize wr.alloc (.cells #[.int .i64 m, .int .i64 e, .int .i64 d] 38) = V0 at *
      have p0 := BelowOf.cell y0
      have p1 := BelowOf.cell y1
      clear hal y0 y1 d1 d2 d3
      refine wp_region_quiet_below (by kernel_rfl) (by kernel_rfl) ?_
      repeat (first | go_big_quiet_step (first | (go_at_call 62; rename_i pp; exact Calls.below_of pp (HU.out _))) | quiet_step (first | (go_at_call 62; rename_i pp; exact Calls.below_of pp (HU.out _))))
      refine wpQuiet_nil ?_
      rintro w5 ⟨pp, hpp⟩
      have b5 := pp.hb
      rw [← hpp] at b5
      have L5 := hid (bel_of LV.out b5)
      clear hpp pp p0 p1 b5
      go_wp2_with fail
      go_roundw
      case rel =>
        have := HB1.out
        exact ⟨k + 1, _, by omega, rfl, by go_num, by first | exact HD | (show _ = _; have := HD.out; omega), by first | exact this.1 | omega, by first | omega | (have := this.2; omega), L5.out⟩
      case measure => simp [intOf]; omega
    · obtain rfl : k = i := by omega
      clear hb
      go_wp2_with fail
      go_ret
      exact ⟨by rw [hA.out]; rfl, HB.out⟩
set_option maxRecDepth 20000 in
set_option maxHeartbeats 1600000 in
theorem rreplyOf_any (l : List Tk) (i : Nat) (size : Int) (sl : List Sp) (a c : Option Addr) (ca cc : Nat) (w : World) (hr : Tks w a l) (hs : Sps w c sl) (hc : l.length ≤ ca) (hk : tchk l = 0) (hck : chk size sl = 0) (hi : i < l.length) :
    Calls Try.prog 37 #[.slice a l.length ca, .int .i64 i, .agg #[.int .i64 size, .slice c sl.length cc]] w fun e w' => e = .returned (.int .i64 (repV l i size sl)) ∧ Below w.heap.size w w' := by
  obtain ⟨hl, hg⟩ := tchk_zero hk
  obtain ⟨s1, s2, s3, s4⟩ := chk_zero hck
  have HR := hid hr
  have hx := hg _ (tk_mem hi)
  have HNW := hid (fun W n (h : Below w.heap.size w W) (h1 : 1 ≤ n) (h2 : n ≤ 10000) => needOf_any l i n a ca W (hr.below h (Nat.le_refl _)) hc hl hg hi h1 h2)
  have HSB := hid (fun W n (h : Below w.heap.size w W) (h1 : 1 ≤ n) (h2 : n ≤ 10000) => rbounds_any size n c cc sl W (hs.below h (Nat.le_refl _)) hck (by omega) (by omega))
  have HLS := hid (fun n (h1 : 1 ≤ n) => (zmin_P (n := n) s1 s4 (by omega)).one (lst_P (n := n) s1 s4 (by omega)))
  have HNONE := hid (fun (n : Int) (h : NoneB (lst size sl) (l.take i) (l.getD i zTk) n) (hn : ¬ n ≤ (l.getD i zTk).2.2) => none_end h hn)
  have HV : Hid (repV l i size sl = rep (lst size sl) (l.take i) (l.getD i zTk)) := rfl
  have H0 := hid (none_start (lst size sl) (l.take i) (l.getD i zTk))
  obtain ⟨b0, o0, rfl, hb0, z1, z2, z3⟩ := hr.at i hi
  have il : (i : Int) < (l.length : Int) := by omega
  have hd00 := hx.2.2.2.1
  have hd01 := hx.2.1
  generalize repV l i size sl = RV at *
  generalize l.take i = p at *
  generalize l.getD i zTk = x at *
  obtain ⟨m0, e0, d0⟩ := x
  have HZ := hid z3
  simp only at z3 hd00 hd01 HNONE
  have hd0 : d0 ≤ 10000 := by omega
  clear hr hs hg z1 z2 z3 hck s1 s4 hx hd00 hd01
  go_enter Try.func37, Try.ntmps37
  go_wp2_with fail
  go_loopw [7] (fun v7 wr => ∃ (n : Int), v7 = .int .i64 n ∧ 1 ≤ n ∧ n ≤ 20000 ∧ Hid (NoneB (lst size sl) p (m0, e0, d0) n) ∧ Below (w.heap.size + 1) (w.alloc (.cells #[.int .i64 size, .slice c sl.length cc] 26)) wr) (fun v7 _ => (d0 + 1 - intOf v7).toNat)
  case atStart => exact ⟨1, rfl, by omega, by omega, H0, Below.refl _ _⟩
  case round =>
    obtain ⟨n, rfl, h1, h2, hN, hb⟩ := hrel
    have HB := hid hb
    have y3 := ((of_alloc hb).cell hb0).trans HZ.out
    have c0 : wr.cell? ⟨w.heap.size, 0, none⟩ = some (.int .i64 size) := boxc hb 0
    have c1 : wr.cell? ⟨w.heap.size, 1, none⟩ = some (.slice c sl.length cc) := boxc hb 1
    by_cases hn : n ≤ d0
    · have HS1 := hid (HSB.out wr n (of_alloc hb) h1 (by omega))
      have HN1 := hid (fun W (h : Below w.heap.size w W) => HNW.out W n h h1 (by omega))
      rw [HLS.out n h1] at HS1
      have HX := hid (fun h : need p (m0, e0, d0) n ≤ lst size sl n => HV.out.trans (none_hit hN.out ⟨h1, hn, h⟩))
      have HY := hid (fun h : ¬ need p (m0, e0, d0) n ≤ lst size sl n => none_step hN.out (fun he => h he.2.2))
      clear hb
      generalize need p (m0, e0, d0) n = nd at *
      generalize lst size sl n = ls at *
      generalize zmax (D size sl n) 0 (sedges size n (edges sl)) = zm at *
      by_cases hle : nd ≤ ls
      · have HXX := hid (HX.out hle)
        go_wp2_with fail
        refine HS1.out.mono ?_
        rintro e w2 ⟨rfl, b2⟩
        have B2 := hid (box2 HB.out b2)
        clear b2 c0 c1 y3
        go_wp2_with fail
        refine (HN1.out _ (of_alloc B2.out)).mono ?_
        rintro e w3 ⟨rfl, b3⟩
        have B3 := hid (box2 B2.out b3)
        clear b3
        go_wp2_with fail
        go_ret
        exact ⟨by rw [HXX.out]; rfl, of_alloc B3.out⟩
      · have HYY := hid (HY.out hle)
        go_wp2_with fail
        refine HS1.out.mono ?_
        rintro e w2 ⟨rfl, b2⟩
        have B2 := hid (box2 HB.out b2)
        clear b2 c0 c1 y3
        go_wp2_with fail
        refine (HN1.out _ (of_alloc B2.out)).mono ?_
        rintro e w3 ⟨rfl, b3⟩
        have B3 := hid (box2 B2.out b3)
        clear b3
        go_wp2_with fail
        go_roundw
        case rel => exact ⟨n + 1, by go_num, by omega, by omega, HYY, B3.out⟩
        case measure => simp [intOf]; omega
    · have HX := hid (HV.out.trans (HNONE.out n hN.out (by omega)))
      clear hb
      go_wp2_with fail
      go_ret
      exact ⟨by rw [HX.out]; rfl, of_alloc HB.out⟩
end RepC
end Go.Proofs.Ytnbfadfhpegddaa
