/- The document's own answers about ports: PortDone where it does something (gen_prtu.py writes this text). -/
import Derived.Test.YtllfpbngfkimlaaPrtU
set_option linter.unusedVariables false
namespace Go.Proofs.Ytllfpbngfkimlaa
open Go.RowKit
open Go.Shelf Go.Sort
open SpanM SpanC IntsC
namespace PortC
open PrtM
set_option maxRecDepth 20000 in
set_option maxHeartbeats 1600000 in
theorem pd_sam_wr (sz rm fr tm now : Int) (a : Option Addr) (c : Nat) (l : List ByteArray) (s : ByteArray) (w : World) (h2 : tm ≤ now ∧ now ≤ 1099511627776) (h3 : ¬ sz < (s.size : Int)) :
    Calls Try.prog 20 #[.agg #[.int .i64 1, .int .i64 sz, .int .i64 rm, .int .i64 fr, .slice a l.length c, .int .i64 tm], .agg #[.int .i64 1, .int .i64 now, .string s]] w fun e w' => (∃ u, e = .returned (.tuple #[.agg #[.int .i64 1, .int .i64 sz, .int .i64 rm, .int .i64 fr, u, .int .i64 now], .agg #[.string e0, .bool false, .int .i64 0]]) ∧ OwnS w' w.heap.size u [s]) ∧ Below w.heap.size w w' := by
  have H1 := hid (fun wx => bet_yes 1 1 2 wx (by decide))
  have H2 := hid (fun wx => bet_yes now tm 1099511627776 wx h2)
  generalize l.length = n
  have X0 := hid (D3.alloc (D3.start4 w #[.int .i64 1, .int .i64 sz, .int .i64 rm, .int .i64 fr, .slice a n c, .int .i64 tm] #[.int .i64 1, .int .i64 now, .string s] #[.int .i64 0, .int .i64 0, .int .i64 0, .int .i64 0, .slice none 0 0, .int .i64 0] #[.string e0, .bool false, .int .i64 0]) (.cells #[.int .i64 1, .int .i64 sz, .int .i64 rm, .int .i64 fr, .slice a n c, .int .i64 tm] 36))
  have XQ := hid (box_new ((((w.alloc (.cells #[.int .i64 1, .int .i64 sz, .int .i64 rm, .int .i64 fr, .slice a n c, .int .i64 tm] 36)).alloc (.cells #[.int .i64 1, .int .i64 now, .string s] 48)).alloc (.cells #[.int .i64 0, .int .i64 0, .int .i64 0, .int .i64 0, .slice none 0 0, .int .i64 0] 36)).alloc (.cells #[.string e0, .bool false, .int .i64 0] 44)) #[.int .i64 1, .int .i64 sz, .int .i64 rm, .int .i64 fr, .slice a n c, .int .i64 tm] 36)
  have hs5 : (((((w.alloc (.cells #[.int .i64 1, .int .i64 sz, .int .i64 rm, .int .i64 fr, .slice a n c, .int .i64 tm] 36)).alloc (.cells #[.int .i64 1, .int .i64 now, .string s] 48)).alloc (.cells #[.int .i64 0, .int .i64 0, .int .i64 0, .int .i64 0, .slice none 0 0, .int .i64 0] 36)).alloc (.cells #[.string e0, .bool false, .int .i64 0] 44)).alloc (.cells #[.int .i64 1, .int .i64 sz, .int .i64 rm, .int .i64 fr, .slice a n c, .int .i64 tm] 36)).heap.size = w.heap.size + 5 := by simp only [World.size_alloc]
  simp only [World.size_alloc] at XQ
  clear h2
  go_enter Try.func20, Try.ntmps20
  go_wp2_with (first | (go_at_call 12; (with_reducible refine (H1.out _).mono ?_); rintro e wb ⟨rfl, rfl⟩) | (go_at_call 12; (with_reducible refine (H2.out _).mono ?_); rintro e wb ⟨rfl, rfl⟩))
  obtain ⟨w5, hw5⟩ : ∃ y, y = (((((w.alloc (.cells #[.int .i64 1, .int .i64 sz, .int .i64 rm, .int .i64 fr, .slice a n c, .int .i64 tm] 36)).alloc (.cells #[.int .i64 1, .int .i64 now, .string s] 48)).alloc (.cells #[.int .i64 0, .int .i64 0, .int .i64 0, .int .i64 0, .slice none 0 0, .int .i64 0] 36)).alloc (.cells #[.string e0, .bool false, .int .i64 0] 44)).alloc (.cells #[.int .i64 1, .int .i64 sz, .int .i64 rm, .int .i64 fr, .slice a n c, .int .i64 tm] 36)) := ⟨_, rfl⟩
  rw [← hw5]
  rw [← hw5] at XQ hs5
  have X4 : Hid (D3 w w5 #[.int .i64 1, .int .i64 sz, .int .i64 rm, .int .i64 fr, .slice a n c, .int .i64 tm] #[.int .i64 1, .int .i64 now, .string s] #[.int .i64 0, .int .i64 0, .int .i64 0, .int .i64 0, .slice none 0 0, .int .i64 0] #[.string e0, .bool false, .int .i64 0]) := by rw [hw5]; exact X0.out
  clear hw5
  obtain ⟨p0, p1, p2, p3, p4, p5⟩ := six_of X4.out.p
  obtain ⟨o0, o1, o2⟩ := three_of X4.out.o
  obtain ⟨v0, v1, v2, v3, v4, v5⟩ := six_of XQ.out
  have f4 := froz_of XQ.out 4
  have f5 := froz_of XQ.out 5
  have HS5 := hid hs5
  have n1 : ¬ w.heap.size + 1 = w5.heap.size := by omega
  have n2 : ¬ w.heap.size + 1 + 1 + 1 + 1 = w5.heap.size := by omega
  have n3 : ¬ w5.heap.size = w.heap.size + 1 := by omega
  have n4 : ¬ w5.heap.size = w.heap.size + 1 + 1 + 1 + 1 := by omega
  have hqa := box_alloc XQ.out (.cells #[.string s] 9)
  have hoa := box_alloc X4.out.o (.cells #[.string s] 9)
  obtain ⟨q0, q1, q2⟩ := three_of hoa
  obtain ⟨y0, y1, y2, y3, y4, y5⟩ := six_of hqa
  have g4 := froz_of hqa 4
  have g5 := froz_of hqa 5
  clear hs5 hqa hoa
  go_region
  obtain ⟨w6, hw6⟩ : ∃ y, y = (((w5.alloc (.cells #[.string s] 9)).setCell ⟨w.heap.size + 1 + 1 + 1 + 1, 4, none⟩ (.slice (some ⟨w5.heap.size, 0, none⟩) 1 1)).setCell ⟨w.heap.size + 1 + 1 + 1 + 1, 5, none⟩ (.int .i64 now)).drew := ⟨_, rfl⟩
  rw [← hw6]
  have X6 : Hid (D3 w w6 #[.int .i64 1, .int .i64 sz, .int .i64 rm, .int .i64 fr, .slice a n c, .int .i64 tm] #[.int .i64 1, .int .i64 now, .string s] #[.int .i64 0, .int .i64 0, .int .i64 0, .int .i64 0, .slice none 0 0, .int .i64 0] #[.string e0, .bool false, .int .i64 0]) := by rw [hw6]; exact (D3.setq (D3.setq (X4.out.alloc _) 4 _) 5 _).drew
  have hq6 : w6.heap[w.heap.size + 1 + 1 + 1 + 1]? = some (.cells #[.int .i64 1, .int .i64 sz, .int .i64 rm, .int .i64 fr, .slice (some ⟨w5.heap.size, 0, none⟩) 1 1, .int .i64 now] 36) := by
    rw [hw6, heap_drew]
    exact heap_setCell_same _ _ _ _ _ _ (heap_setCell_same _ _ _ _ _ _ (box_alloc XQ.out _))
  have hqb := (Array.getElem?_eq_some_iff.1 XQ.out).1
  have HT6 : Hid (OwnS w6 w.heap.size (.slice (some ⟨w5.heap.size, 0, none⟩) 1 1) [s]) := by
    rw [hw6]
    have ne : (Value.slice (some ⟨w5.heap.size, 0, none⟩) 1 1).ownBlock ≠ some (w.heap.size + 1 + 1 + 1 + 1) := by simp [Value.ownBlock]; omega
    exact own_drew (own_set (own_set (own_one w5 w.heap.size X4.out.b.size s) _ _ _ ne) _ _ _ ne)
  generalize w5.heap.size = B5 at *
  clear hw6 hqb p0 p1 p2 p3 p4 p5 o0 o1 o2 v0 v1 v2 v3 v4 v5 f4 f5 n1 n2 n3 n4 q0 q1 q2 y0 y1 y2 y3 y4 y5 g4 g5
  obtain ⟨v0, v1, v2, v3, v4, v5⟩ := six_of hq6
  clear hq6
  have X4 := X6
  obtain ⟨r0, r1, r2, r3, r4, r5⟩ := six_of X6.out.r
  obtain ⟨s0, s1, s2⟩ := three_of X6.out.t
  have m0 := froz_of X6.out.r 0
  have m1 := froz_of X6.out.r 1
  have m2 := froz_of X6.out.r 2
  have m3 := froz_of X6.out.r 3
  have m4 := froz_of X6.out.r 4
  have m5 := froz_of X6.out.r 5
  have k0 := froz_of X6.out.t 0
  have k1 := froz_of X6.out.t 1
  have k2 := froz_of X6.out.t 2
  go_wp2_with fail
  obtain ⟨w7, hw7⟩ : ∃ y, y = st3 (st6 w6 (w.heap.size + 1 + 1) (.int .i64 1) (.int .i64 sz) (.int .i64 rm) (.int .i64 fr) (.slice (some ⟨B5, 0, none⟩) 1 1) (.int .i64 now)) (w.heap.size + 1 + 1 + 1) (.string e0) (.bool false) (.int .i64 0) := ⟨_, rfl⟩
  have hw8 := hw7
  simp only [st6, st3] at hw8
  rw [← hw8]
  clear hw8
  obtain ⟨f1, f2, f3⟩ := D3.fin X4.out (.int .i64 1) (.int .i64 sz) (.int .i64 rm) (.int .i64 fr) (.slice (some ⟨B5, 0, none⟩) 1 1) (.int .i64 now) (.string e0) (.bool false) (.int .i64 0)
  have HR1 : Hid (Sem.run Try.prog (loadVar 36 ⟨w.heap.size + 1 + 1, 0, none⟩) w7 = .ok (.agg #[.int .i64 1, .int .i64 sz, .int .i64 rm, .int .i64 fr, .slice (some ⟨B5, 0, none⟩) 1 1, .int .i64 now]) w7) := by
    refine load_port ?_
    rw [hw7]
    exact f1
  have HR2 : Hid (Sem.run Try.prog (loadVar 44 ⟨w.heap.size + 1 + 1 + 1, 0, none⟩) w7 = .ok (.agg #[.string e0, .bool false, .int .i64 0]) w7) := by
    refine load_ans ?_
    rw [hw7]
    exact f2
  have HB7 : Hid (Below w.heap.size w w7) := by rw [hw7]; exact f3
  have HO7 : OwnS w7 w.heap.size (.slice (some ⟨B5, 0, none⟩) 1 1) [s] := by
    rw [hw7]
    exact st3_own (st6_own HT6.out (orow_ne_box HT6.out X6.out.r (by decide))) (orow_ne_box HT6.out X6.out.t (by decide))
  have HO8 := hid HO7
  clear HO7
  (try simp only [Exit.inBlock, Exit.then])
  refine bodyPost_ret (by simp [results, Try.results20]; rw [as_addr, Result.andThen_ok, HR1.out, Result.andThen_ok, as_addr, Result.andThen_ok, HR2.out, Result.andThen_ok]) rfl ?_
  exact ⟨⟨_, rfl, HO8.out⟩, HB7.out⟩
end PortC
end Go.Proofs.Ytllfpbngfkimlaa
