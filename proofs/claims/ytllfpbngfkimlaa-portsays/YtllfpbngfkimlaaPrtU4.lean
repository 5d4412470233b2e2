/- The document's own answers about ports: PortDone where it does something (gen_prtu.py writes this text). -/
import Derived.Test.YtllfpbngfkimlaaPrtU
set_option linter.unusedVariables false
namespace Go.Proofs.Ytllfpbngfkimlaa
open Go.RowKit
open Go.Shelf Go.Sort
open SpanM SpanC IntsC
namespace PortC
open PrtM
set_option maxRecDepth 20000 in
set_option maxHeartbeats 1600000 in
theorem pd_que_wr (sz rm fr tm now : Int) (a : Option Addr) (c : Nat) (l : List ByteArray) (s : ByteArray) (w : World) (h2 : tm ≤ now ∧ now ≤ 1099511627776) (h3 : ¬ sz < (s.size : Int)) (h4 : ((l.length : Int) == rm) = false) (hr : RdS w a l) (hn0 : a = none → l.length = 0 ∧ c = 0) (hl : l.length ≤ 1000) :
    Calls Try.prog 20 #[.agg #[.int .i64 2, .int .i64 sz, .int .i64 rm, .int .i64 fr, .slice a l.length c, .int .i64 tm], .agg #[.int .i64 1, .int .i64 now, .string s]] w fun e w' => (∃ u, e = .returned (.tuple #[.agg #[.int .i64 2, .int .i64 sz, .int .i64 rm, .int .i64 fr, u, .int .i64 tm], .agg #[.string e0, .bool false, .int .i64 0]]) ∧ OwnS w' w.heap.size u (l ++ [s])) ∧ Below w.heap.size w w' := by
  have H1 := hid (fun wx => bet_yes 1 1 2 wx (by decide))
  have H2 := hid (fun wx => bet_yes now tm 1099511627776 wx h2)
  have HR := hid hr
  have HN0 := hid hn0
  have HL := hid hl
  obtain ⟨i0, hi, hz0, hz1, hz2⟩ := info_parts infoStr
  have Hi := hid hi
  have Hz0 := hid hz0
  have Hz1 := hid hz1
  have Hz2 := hid hz2
  clear hi hz0 hz1 hz2
  have k5 : l.length + 1 ≤ maxLen := by unfold maxLen; omega
  have k6 : (l.length + 1) * 16 ≤ 140737488355328 := by omega
  have K1 : Hid (∀ u ∈ ([.string s] : List Value), u.oneCell' = true) := by intro u hu; simp at hu; subst hu; rfl
  obtain ⟨n, hn⟩ : ∃ n, n = l.length := ⟨_, rfl⟩
  have HN := hid hn
  rw [← hn] at h4 ⊢
  have X0 := hid (D3.alloc (D3.start4 w #[.int .i64 2, .int .i64 sz, .int .i64 rm, .int .i64 fr, .slice a n c, .int .i64 tm] #[.int .i64 1, .int .i64 now, .string s] #[.int .i64 0, .int .i64 0, .int .i64 0, .int .i64 0, .slice none 0 0, .int .i64 0] #[.string e0, .bool false, .int .i64 0]) (.cells #[.int .i64 2, .int .i64 sz, .int .i64 rm, .int .i64 fr, .slice a n c, .int .i64 tm] 36))
  have XQ := hid (box_new ((((w.alloc (.cells #[.int .i64 2, .int .i64 sz, .int .i64 rm, .int .i64 fr, .slice a n c, .int .i64 tm] 36)).alloc (.cells #[.int .i64 1, .int .i64 now, .string s] 48)).alloc (.cells #[.int .i64 0, .int .i64 0, .int .i64 0, .int .i64 0, .slice none 0 0, .int .i64 0] 36)).alloc (.cells #[.string e0, .bool false, .int .i64 0] 44)) #[.int .i64 2, .int .i64 sz, .int .i64 rm, .int .i64 fr, .slice a n c, .int .i64 tm] 36)
  have hs5 : (((((w.alloc (.cells #[.int .i64 2, .int .i64 sz, .int .i64 rm, .int .i64 fr, .slice a n c, .int .i64 tm] 36)).alloc (.cells #[.int .i64 1, .int .i64 now, .string s] 48)).alloc (.cells #[.int .i64 0, .int .i64 0, .int .i64 0, .int .i64 0, .slice none 0 0, .int .i64 0] 36)).alloc (.cells #[.string e0, .bool false, .int .i64 0] 44)).alloc (.cells #[.int .i64 2, .int .i64 sz, .int .i64 rm, .int .i64 fr, .slice a n c, .int .i64 tm] 36)).heap.size = w.heap.size + 5 := by simp only [World.size_alloc]
  simp only [World.size_alloc] at XQ
  clear h2 hr hn hn0 hl
  go_enter Try.func20, Try.ntmps20
  go_wp2_with (first | (go_at_call 12; (with_reducible refine (H1.out _).mono ?_); rintro e wb ⟨rfl, rfl⟩) | (go_at_call 12; (with_reducible refine (H2.out _).mono ?_); rintro e wb ⟨rfl, rfl⟩))
  obtain ⟨w5, hw5⟩ : ∃ y, y = (((((w.alloc (.cells #[.int .i64 2, .int .i64 sz, .int .i64 rm, .int .i64 fr, .slice a n c, .int .i64 tm] 36)).alloc (.cells #[.int .i64 1, .int .i64 now, .string s] 48)).alloc (.cells #[.int .i64 0, .int .i64 0, .int .i64 0, .int .i64 0, .slice none 0 0, .int .i64 0] 36)).alloc (.cells #[.string e0, .bool false, .int .i64 0] 44)).alloc (.cells #[.int .i64 2, .int .i64 sz, .int .i64 rm, .int .i64 fr, .slice a n c, .int .i64 tm] 36)) := ⟨_, rfl⟩
  rw [← hw5]
  rw [← hw5] at XQ hs5
  have X4 : Hid (D3 w w5 #[.int .i64 2, .int .i64 sz, .int .i64 rm, .int .i64 fr, .slice a n c, .int .i64 tm] #[.int .i64 1, .int .i64 now, .string s] #[.int .i64 0, .int .i64 0, .int .i64 0, .int .i64 0, .slice none 0 0, .int .i64 0] #[.string e0, .bool false, .int .i64 0]) := by rw [hw5]; exact X0.out
  clear hw5
  have HCL := hid (fun wx (hx : Below w5.heap.size w5 wx) => cloneS_any a c l wx ((HR.out.below X4.out.b (Nat.le_refl _)).below hx (Nat.le_refl _)) HN0.out (by have := HL.out; omega))
  rw [← HN.out] at HCL
  obtain ⟨p0, p1, p2, p3, p4, p5⟩ := six_of X4.out.p
  obtain ⟨o0, o1, o2⟩ := three_of X4.out.o
  have HS5 := hid hs5
  have n1 : ¬ w.heap.size + 1 = w5.heap.size := by omega
  have n2 : ¬ w.heap.size = w5.heap.size := by omega
  have n3 : ¬ w5.heap.size = w.heap.size + 1 := by omega
  have n4 : ¬ w5.heap.size = w.heap.size := by omega
  have n5 : ¬ w.heap.size + 1 + 1 + 1 + 1 = w.heap.size := by omega
  have n6 : ¬ w.heap.size + 1 + 1 + 1 = w.heap.size := by omega
  have n7 : ¬ w.heap.size = w.heap.size + 1 + 1 + 1 := by omega
  have n8 : ¬ w.heap.size = w.heap.size + 1 + 1 + 1 + 1 := by omega
  clear hs5
  go_region_held3 (fun W => W.cell? ⟨w.heap.size, 4, none⟩ = some (.slice a n c) ∧ W.cell? ⟨w.heap.size + 1, 2, none⟩ = some (.string s)) (go_keep)
    (first
      | (go_at_call 25
         refine (HCL.out _ ?_).mono ?_
         · exact (Below.refl w5.heap.size w5).drew
         rintro e w6 ⟨⟨v6, rfl, ho6⟩, b6⟩
         have hb6 : Below w5.heap.size w5 w6 := ((Below.refl _ _).drew).trans b6
         have ho7 : OwnS w6 w5.heap.size v6 l := RowG.Own.base ho6 (by simp)
         have x6 := X4.out.step hb6
         have q4 := (six_of x6.p).2.2.2.2.1
         have q2 := (three_of x6.o).2.2
         have m1 : ¬ w.heap.size + 1 = w6.heap.size := by have := hb6.size; have := HS5.out; omega
         have m2 : ¬ w.heap.size = w6.heap.size := by have := hb6.size; have := HS5.out; omega)
      | (go_at_call 25
         refine (HCL.out _ ?_).mono ?_
         · exact ((Below.refl w5.heap.size w5).alloc (Nat.le_refl _) _).drew
         rintro e w6 ⟨⟨v6, rfl, ho6⟩, b6⟩
         have hb6 : Below w5.heap.size w5 w6 := (((Below.refl w5.heap.size w5).alloc (Nat.le_refl _) _).drew).trans (b6.mono (by simp))
         have ho7 : OwnS w6 w5.heap.size v6 l := RowG.Own.base ho6 (by simp)
         have x6 := X4.out.step hb6
         have q4 := (six_of x6.p).2.2.2.2.1
         have q2 := (three_of x6.o).2.2
         have m1 : ¬ w.heap.size + 1 = w6.heap.size := by have := hb6.size; have := HS5.out; omega
         have m2 : ¬ w.heap.size = w6.heap.size := by have := hb6.size; have := HS5.out; omega
         have hn6 : w6.heap[w5.heap.size]? = some (.cells #[.string s] 9) := (b6.block w5.heap.size (by simp)).trans (heap_alloc_new w5 _))
      | (refine step_append_own rfl _ _ _ (by rfl) w5.heap.size 9 i0 (.string e0) 1 16 Try.underlying34 Hi.out Hz0.out Hz1.out Hz2.out rfl (by decide) v6 l.length (ES.flat l) (by rfl) (World.ownsRow.alloc ho7 _) ⟨w6.heap.size, 0, none⟩ 1 1 [.string s] (by rfl) (by rfl) (World.news_of_block (heap_alloc_new w6 _)) K1.out k5 k6 (by rw [World.size_alloc]; have := hb6.size; omega) ?_
         intro v8 w8 hown hgrow hnil
         have ho8 : OwnS w8 w5.heap.size v8 (l ++ [s]) := RowG.own_snoc hown rfl rfl
         have hb8 : Below w5.heap.size w5 w8 := (hb6.alloc hb6.size _).grown hgrow (by rw [World.size_alloc]; have := hb6.size; omega) (fun g hg => (RowG.Own.lt ho7 g hg).1)
         obtain ⟨a8, n8, c8, hv8⟩ : ∃ a8 n8 c8, v8 = .slice a8 n8 c8 := by obtain ⟨a9, c9, e9⟩ := RowG.Own.slice ho8; exact ⟨_, _, _, e9⟩
         subst hv8
         have x8 := X4.out.step hb8
         have q4 := (six_of x8.p).2.2.2.2.1
         have q2 := (three_of x8.o).2.2
         have hq8 := box_below XQ.out hb8 (Nat.le_refl _)
         have v4 := (six_of hq8).2.2.2.2.1
         have f4 := froz_of hq8 4)
      | (refine step_append_own rfl _ _ _ (by rfl) w5.heap.size 9 i0 (.string e0) 1 16 Try.underlying34 Hi.out Hz0.out Hz1.out Hz2.out rfl (by decide) v6 l.length (ES.flat l) (by rfl) ho7 ⟨w5.heap.size, 0, none⟩ 1 1 [.string s] (by rfl) (by rfl) (World.news_of_block hn6) K1.out k5 k6 hb6.size ?_
         intro v8 w8 hown hgrow hnil
         have ho8 : OwnS w8 w5.heap.size v8 (l ++ [s]) := RowG.own_snoc hown rfl rfl
         have hb8 : Below w5.heap.size w5 w8 := hb6.grown hgrow hb6.size (fun g hg => (RowG.Own.lt ho7 g hg).1)
         obtain ⟨a8, n8, c8, hv8⟩ : ∃ a8 n8 c8, v8 = .slice a8 n8 c8 := by obtain ⟨a9, c9, e9⟩ := RowG.Own.slice ho8; exact ⟨_, _, _, e9⟩
         subst hv8
         have x8 := X4.out.step hb8
         have q4 := (six_of x8.p).2.2.2.2.1
         have q2 := (three_of x8.o).2.2
         have hq8 := box_below XQ.out hb8 (Nat.le_refl _)
         have v4 := (six_of hq8).2.2.2.2.1
         have f4 := froz_of hq8 4))
  all_goals
    obtain ⟨w9, hw9⟩ : ∃ y, y = w8.setCell ⟨w.heap.size + 1 + 1 + 1 + 1, 4, none⟩ (.slice a8 n8 c8) := ⟨_, rfl⟩
    rw [← hw9]
    have X9 : Hid (D3 w w9 #[.int .i64 2, .int .i64 sz, .int .i64 rm, .int .i64 fr, .slice a n c, .int .i64 tm] #[.int .i64 1, .int .i64 now, .string s] #[.int .i64 0, .int .i64 0, .int .i64 0, .int .i64 0, .slice none 0 0, .int .i64 0] #[.string e0, .bool false, .int .i64 0]) := by rw [hw9]; exact D3.setq x8 4 _
    have hq9 : w9.heap[w.heap.size + 1 + 1 + 1 + 1]? = some (.cells #[.int .i64 2, .int .i64 sz, .int .i64 rm, .int .i64 fr, .slice a8 n8 c8, .int .i64 tm] 36) := by
      rw [hw9]
      exact heap_setCell_same _ _ _ _ _ _ hq8
    have HT9 : Hid (OwnS w9 w5.heap.size (.slice a8 n8 c8) (l ++ [s])) := by
      rw [hw9]
      exact own_set ho8 _ _ _ (orow_ne_box ho8 hq8 (by decide))
    clear hw9 hq8 q4 q2 v4 f4 p0 p1 p2 p3 p4 p5 o0 o1 o2 hb8 ho8 hown hgrow hb6 ho6 ho7 b6
    try clear hn6
    obtain ⟨v0, v1, v2, v3, v4, v5⟩ := six_of hq9
    clear hq9
    have X4 := X9
    obtain ⟨r0, r1, r2, r3, r4, r5⟩ := six_of X9.out.r
    obtain ⟨s0, s1, s2⟩ := three_of X9.out.t
    have m0 := froz_of X9.out.r 0
    have m1 := froz_of X9.out.r 1
    have m2 := froz_of X9.out.r 2
    have m3 := froz_of X9.out.r 3
    have m4 := froz_of X9.out.r 4
    have m5 := froz_of X9.out.r 5
    have k0 := froz_of X9.out.t 0
    have k1 := froz_of X9.out.t 1
    have k2 := froz_of X9.out.t 2
    go_wp2_with fail
    obtain ⟨w7, hw7⟩ : ∃ y, y = st3 (st6 w9 (w.heap.size + 1 + 1) (.int .i64 2) (.int .i64 sz) (.int .i64 rm) (.int .i64 fr) (.slice a8 n8 c8) (.int .i64 tm)) (w.heap.size + 1 + 1 + 1) (.string e0) (.bool false) (.int .i64 0) := ⟨_, rfl⟩
    have hw8 := hw7
    simp only [st6, st3] at hw8
    rw [← hw8]
    clear hw8
    obtain ⟨f1, f2, f3⟩ := D3.fin X4.out (.int .i64 2) (.int .i64 sz) (.int .i64 rm) (.int .i64 fr) (.slice a8 n8 c8) (.int .i64 tm) (.string e0) (.bool false) (.int .i64 0)
    have HR1 : Hid (Sem.run Try.prog (loadVar 36 ⟨w.heap.size + 1 + 1, 0, none⟩) w7 = .ok (.agg #[.int .i64 2, .int .i64 sz, .int .i64 rm, .int .i64 fr, .slice a8 n8 c8, .int .i64 tm]) w7) := by
      refine load_port ?_
      rw [hw7]
      exact f1
    have HR2 : Hid (Sem.run Try.prog (loadVar 44 ⟨w.heap.size + 1 + 1 + 1, 0, none⟩) w7 = .ok (.agg #[.string e0, .bool false, .int .i64 0]) w7) := by
      refine load_ans ?_
      rw [hw7]
      exact f2
    have HB7 : Hid (Below w.heap.size w w7) := by rw [hw7]; exact f3
    have HO7 : OwnS w7 w5.heap.size (.slice a8 n8 c8) (l ++ [s]) := by
      rw [hw7]
      exact st3_own (st6_own HT9.out (orow_ne_box HT9.out X9.out.r (by decide))) (orow_ne_box HT9.out X9.out.t (by decide))
    have HO8 := hid HO7
    clear HO7
    (try simp only [Exit.inBlock, Exit.then])
    refine bodyPost_ret (by simp [results, Try.results20]; rw [as_addr, Result.andThen_ok, HR1.out, Result.andThen_ok, as_addr, Result.andThen_ok, HR2.out, Result.andThen_ok]) rfl ?_
    exact ⟨⟨_, rfl, RowG.Own.base HO8.out (by have := HS5.out; omega)⟩, HB7.out⟩
end PortC
end Go.Proofs.Ytllfpbngfkimlaa
