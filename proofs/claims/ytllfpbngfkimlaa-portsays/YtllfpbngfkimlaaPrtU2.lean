/- The document's own answers about ports: PortDone where it does something (gen_prtu.py writes this text). -/
import Derived.Test.YtllfpbngfkimlaaPrtU
set_option linter.unusedVariables false
namespace Go.Proofs.Ytllfpbngfkimlaa
open Go.RowKit
open Go.Shelf Go.Sort
open SpanM SpanC IntsC
namespace PortC
open PrtM
set_option maxRecDepth 20000 in
set_option maxHeartbeats 1600000 in
theorem pd_que_rd (sz rm fr tm now : Int) (a : Option Addr) (c : Nat) (l : List ByteArray) (s : ByteArray) (w : World) (h2 : tm ≤ now ∧ now ≤ 1099511627776) (hr : RdS w a l) (h0 : 0 < l.length) (hc : l.length ≤ c) :
    Calls Try.prog 20 #[.agg #[.int .i64 2, .int .i64 sz, .int .i64 rm, .int .i64 fr, .slice a l.length c, .int .i64 tm], .agg #[.int .i64 2, .int .i64 now, .string s]] w fun e w' => (∃ u, e = .returned (.tuple #[.agg #[.int .i64 2, .int .i64 sz, .int .i64 rm, .int .i64 fr, u, .int .i64 tm], .agg #[.string (l.getD 0 e0), .bool true, .int .i64 0]]) ∧ (TX w' u (l.drop 1) ∧ ∀ b o n' c', u = Value.slice (some ⟨b, o, none⟩) n' c' → ∃ o' n'' c'', Value.slice a l.length c = Value.slice (some ⟨b, o', none⟩) n'' c'')) ∧ Below w.heap.size w w' := by
  have H1 := hid (fun wx => bet_yes 2 1 2 wx (by decide))
  have H2 := hid (fun wx => bet_yes now tm 1099511627776 wx h2)
  obtain ⟨b, off, rfl, hx⟩ := RdS.get hr 0 h0
  rw [Nat.add_zero] at hx
  have hb := World.block_lt_of_cell? w _ hx
  have HR := hid hr
  generalize hX : l.getD 0 e0 = X at hx
  have HX := hid hX
  have HC0 := hid hc
  obtain ⟨n, hn⟩ : ∃ n, n = l.length := ⟨_, rfl⟩
  have HN := hid hn
  rw [← hn] at h0 hc ⊢
  have i1 : (0 : Int) < (n : Int) := by omega
  have i2 : ((n : Int) == 0) = false := by simp; omega
  have i3 : (1 : Int) ≤ (n : Int) := by omega
  have i4 : (n : Int) ≤ (c : Int) := by omega
  clear h2 hr hX hn
  by_cases hc1 : c = 1
  · subst hc1
    have X0 := hid (D3.alloc (D3.start4 w #[.int .i64 2, .int .i64 sz, .int .i64 rm, .int .i64 fr, .slice (some ⟨b, off, none⟩) n 1, .int .i64 tm] #[.int .i64 2, .int .i64 now, .string s] #[.int .i64 0, .int .i64 0, .int .i64 0, .int .i64 0, .slice none 0 0, .int .i64 0] #[.string e0, .bool false, .int .i64 0]) (.cells #[.int .i64 2, .int .i64 sz, .int .i64 rm, .int .i64 fr, .slice (some ⟨b, off, none⟩) 0 0, .int .i64 tm] 36))
    have XQ := hid (box_new ((((w.alloc (.cells #[.int .i64 2, .int .i64 sz, .int .i64 rm, .int .i64 fr, .slice (some ⟨b, off, none⟩) n 1, .int .i64 tm] 36)).alloc (.cells #[.int .i64 2, .int .i64 now, .string s] 48)).alloc (.cells #[.int .i64 0, .int .i64 0, .int .i64 0, .int .i64 0, .slice none 0 0, .int .i64 0] 36)).alloc (.cells #[.string e0, .bool false, .int .i64 0] 44)) #[.int .i64 2, .int .i64 sz, .int .i64 rm, .int .i64 fr, .slice (some ⟨b, off, none⟩) 0 0, .int .i64 tm] 36)
    simp only [World.size_alloc] at XQ
    go_enter Try.func20, Try.ntmps20
    go_wp2_with (first | (go_at_call 12; (with_reducible refine (H1.out _).mono ?_); rintro e wb ⟨rfl, rfl⟩) | (go_at_call 12; (with_reducible refine (H2.out _).mono ?_); rintro e wb ⟨rfl, rfl⟩))
    obtain ⟨w5, hw5⟩ : ∃ y, y = (((((w.alloc (.cells #[.int .i64 2, .int .i64 sz, .int .i64 rm, .int .i64 fr, .slice (some ⟨b, off, none⟩) n 1, .int .i64 tm] 36)).alloc (.cells #[.int .i64 2, .int .i64 now, .string s] 48)).alloc (.cells #[.int .i64 0, .int .i64 0, .int .i64 0, .int .i64 0, .slice none 0 0, .int .i64 0] 36)).alloc (.cells #[.string e0, .bool false, .int .i64 0] 44)).alloc (.cells #[.int .i64 2, .int .i64 sz, .int .i64 rm, .int .i64 fr, .slice (some ⟨b, off, none⟩) 0 0, .int .i64 tm] 36)) := ⟨_, rfl⟩
    rw [← hw5]
    rw [← hw5] at XQ
    have X4 : Hid (D3 w w5 #[.int .i64 2, .int .i64 sz, .int .i64 rm, .int .i64 fr, .slice (some ⟨b, off, none⟩) n 1, .int .i64 tm] #[.int .i64 2, .int .i64 now, .string s] #[.int .i64 0, .int .i64 0, .int .i64 0, .int .i64 0, .slice none 0 0, .int .i64 0] #[.string e0, .bool false, .int .i64 0]) := by rw [hw5]; exact X0.out
    have hx5 := (X4.out.b.cell hb).trans hx
    have n1 : ¬ b = w.heap.size + 1 + 1 := by omega
    have n2 : ¬ w.heap.size + 1 + 1 = b := by omega
    have n3 : ¬ b = w.heap.size + 1 + 1 + 1 := by omega
    have n4 : ¬ w.heap.size + 1 + 1 + 1 = b := by omega
    clear hw5 hx hb
    obtain ⟨p0, p1, p2, p3, p4, p5⟩ := six_of X4.out.p
    obtain ⟨o0, o1, o2⟩ := three_of X4.out.o
    obtain ⟨v0, v1, v2, v3, v4, v5⟩ := six_of XQ.out
    obtain ⟨r0, r1, r2, r3, r4, r5⟩ := six_of X4.out.r
    obtain ⟨s0, s1, s2⟩ := three_of X4.out.t
    have m0 := froz_of X4.out.r 0
    have m1 := froz_of X4.out.r 1
    have m2 := froz_of X4.out.r 2
    have m3 := froz_of X4.out.r 3
    have m4 := froz_of X4.out.r 4
    have m5 := froz_of X4.out.r 5
    have k0 := froz_of X4.out.t 0
    have k1 := froz_of X4.out.t 1
    have k2 := froz_of X4.out.t 2
    go_region
    go_wp2_with fail
    obtain ⟨w7, hw7⟩ : ∃ y, y = (st3 (st6 w5 (w.heap.size + 1 + 1) (.int .i64 2) (.int .i64 sz) (.int .i64 rm) (.int .i64 fr) (.slice (some ⟨b, off, none⟩) 0 0) (.int .i64 tm)) (w.heap.size + 1 + 1 + 1) (.string X) (.bool true) (.int .i64 0)).drew := ⟨_, rfl⟩
    have hw8 := hw7
    simp only [st6, st3] at hw8
    rw [← hw8]
    clear hw8
    obtain ⟨f1, f2, f3⟩ := D3.fin X4.out (.int .i64 2) (.int .i64 sz) (.int .i64 rm) (.int .i64 fr) (.slice (some ⟨b, off, none⟩) 0 0) (.int .i64 tm) (.string X) (.bool true) (.int .i64 0)
    have HR1 : Hid (Sem.run Try.prog (loadVar 36 ⟨w.heap.size + 1 + 1, 0, none⟩) w7 = .ok (.agg #[.int .i64 2, .int .i64 sz, .int .i64 rm, .int .i64 fr, .slice (some ⟨b, off, none⟩) 0 0, .int .i64 tm]) w7) := by
      refine load_port ?_
      rw [hw7, heap_drew]
      exact f1
    have HR2 : Hid (Sem.run Try.prog (loadVar 44 ⟨w.heap.size + 1 + 1 + 1, 0, none⟩) w7 = .ok (.agg #[.string X, .bool true, .int .i64 0]) w7) := by
      refine load_ans ?_
      rw [hw7, heap_drew]
      exact f2
    have HB7 : Hid (Below w.heap.size w w7) := by rw [hw7]; exact Below.drew f3
    (try simp only [Exit.inBlock, Exit.then])
    refine bodyPost_ret (by simp [results, Try.results20]; rw [as_addr, Result.andThen_ok, HR1.out, Result.andThen_ok, as_addr, Result.andThen_ok, HR2.out, Result.andThen_ok]) rfl ?_
    have hrt := rd_tail (HR.out.below HB7.out (Nat.le_refl _)) HC0.out
    rw [if_pos rfl] at hrt
    exact ⟨⟨_, by first | rfl | rw [HX.out], ⟨_, _, by rw [List.length_drop, ← HN.out]; rw [show n - 1 = 0 by omega], hrt, (fun e => by cases e), by rw [List.length_drop, ← HN.out]; omega⟩, fun b' o' n' c' e => by simp only [Value.slice.injEq, Option.some.injEq, Addr.mk.injEq] at e; obtain ⟨⟨rfl, _⟩, _⟩ := e; exact ⟨_, _, _, rfl⟩⟩, HB7.out⟩
  · have hc2 : ¬ (c = 1) := hc1
    have X0 := hid (D3.alloc (D3.start4 w #[.int .i64 2, .int .i64 sz, .int .i64 rm, .int .i64 fr, .slice (some ⟨b, off, none⟩) n c, .int .i64 tm] #[.int .i64 2, .int .i64 now, .string s] #[.int .i64 0, .int .i64 0, .int .i64 0, .int .i64 0, .slice none 0 0, .int .i64 0] #[.string e0, .bool false, .int .i64 0]) (.cells #[.int .i64 2, .int .i64 sz, .int .i64 rm, .int .i64 fr, .slice (some ⟨b, off + 1, none⟩) (n - 1) (c - 1), .int .i64 tm] 36))
    have XQ := hid (box_new ((((w.alloc (.cells #[.int .i64 2, .int .i64 sz, .int .i64 rm, .int .i64 fr, .slice (some ⟨b, off, none⟩) n c, .int .i64 tm] 36)).alloc (.cells #[.int .i64 2, .int .i64 now, .string s] 48)).alloc (.cells #[.int .i64 0, .int .i64 0, .int .i64 0, .int .i64 0, .slice none 0 0, .int .i64 0] 36)).alloc (.cells #[.string e0, .bool false, .int .i64 0] 44)) #[.int .i64 2, .int .i64 sz, .int .i64 rm, .int .i64 fr, .slice (some ⟨b, off + 1, none⟩) (n - 1) (c - 1), .int .i64 tm] 36)
    simp only [World.size_alloc] at XQ
    go_enter Try.func20, Try.ntmps20
    go_wp2_with (first | (go_at_call 12; (with_reducible refine (H1.out _).mono ?_); rintro e wb ⟨rfl, rfl⟩) | (go_at_call 12; (with_reducible refine (H2.out _).mono ?_); rintro e wb ⟨rfl, rfl⟩))
    obtain ⟨w5, hw5⟩ : ∃ y, y = (((((w.alloc (.cells #[.int .i64 2, .int .i64 sz, .int .i64 rm, .int .i64 fr, .slice (some ⟨b, off, none⟩) n c, .int .i64 tm] 36)).alloc (.cells #[.int .i64 2, .int .i64 now, .string s] 48)).alloc (.cells #[.int .i64 0, .int .i64 0, .int .i64 0, .int .i64 0, .slice none 0 0, .int .i64 0] 36)).alloc (.cells #[.string e0, .bool false, .int .i64 0] 44)).alloc (.cells #[.int .i64 2, .int .i64 sz, .int .i64 rm, .int .i64 fr, .slice (some ⟨b, off + 1, none⟩) (n - 1) (c - 1), .int .i64 tm] 36)) := ⟨_, rfl⟩
    rw [← hw5]
    rw [← hw5] at XQ
    have X4 : Hid (D3 w w5 #[.int .i64 2, .int .i64 sz, .int .i64 rm, .int .i64 fr, .slice (some ⟨b, off, none⟩) n c, .int .i64 tm] #[.int .i64 2, .int .i64 now, .string s] #[.int .i64 0, .int .i64 0, .int .i64 0, .int .i64 0, .slice none 0 0, .int .i64 0] #[.string e0, .bool false, .int .i64 0]) := by rw [hw5]; exact X0.out
    have hx5 := (X4.out.b.cell hb).trans hx
    have n1 : ¬ b = w.heap.size + 1 + 1 := by omega
    have n2 : ¬ w.heap.size + 1 + 1 = b := by omega
    have n3 : ¬ b = w.heap.size + 1 + 1 + 1 := by omega
    have n4 : ¬ w.heap.size + 1 + 1 + 1 = b := by omega
    clear hw5 hx hb
    obtain ⟨p0, p1, p2, p3, p4, p5⟩ := six_of X4.out.p
    obtain ⟨o0, o1, o2⟩ := three_of X4.out.o
    obtain ⟨v0, v1, v2, v3, v4, v5⟩ := six_of XQ.out
    obtain ⟨r0, r1, r2, r3, r4, r5⟩ := six_of X4.out.r
    obtain ⟨s0, s1, s2⟩ := three_of X4.out.t
    have m0 := froz_of X4.out.r 0
    have m1 := froz_of X4.out.r 1
    have m2 := froz_of X4.out.r 2
    have m3 := froz_of X4.out.r 3
    have m4 := froz_of X4.out.r 4
    have m5 := froz_of X4.out.r 5
    have k0 := froz_of X4.out.t 0
    have k1 := froz_of X4.out.t 1
    have k2 := froz_of X4.out.t 2
    go_region
    go_wp2_with fail
    obtain ⟨w7, hw7⟩ : ∃ y, y = (st3 (st6 w5 (w.heap.size + 1 + 1) (.int .i64 2) (.int .i64 sz) (.int .i64 rm) (.int .i64 fr) (.slice (some ⟨b, off + 1, none⟩) (n - 1) (c - 1)) (.int .i64 tm)) (w.heap.size + 1 + 1 + 1) (.string X) (.bool true) (.int .i64 0)).drew := ⟨_, rfl⟩
    have hw8 := hw7
    simp only [st6, st3] at hw8
    rw [← hw8]
    clear hw8
    obtain ⟨f1, f2, f3⟩ := D3.fin X4.out (.int .i64 2) (.int .i64 sz) (.int .i64 rm) (.int .i64 fr) (.slice (some ⟨b, off + 1, none⟩) (n - 1) (c - 1)) (.int .i64 tm) (.string X) (.bool true) (.int .i64 0)
    have HR1 : Hid (Sem.run Try.prog (loadVar 36 ⟨w.heap.size + 1 + 1, 0, none⟩) w7 = .ok (.agg #[.int .i64 2, .int .i64 sz, .int .i64 rm, .int .i64 fr, .slice (some ⟨b, off + 1, none⟩) (n - 1) (c - 1), .int .i64 tm]) w7) := by
      refine load_port ?_
      rw [hw7, heap_drew]
      exact f1
    have HR2 : Hid (Sem.run Try.prog (loadVar 44 ⟨w.heap.size + 1 + 1 + 1, 0, none⟩) w7 = .ok (.agg #[.string X, .bool true, .int .i64 0]) w7) := by
      refine load_ans ?_
      rw [hw7, heap_drew]
      exact f2
    have HB7 : Hid (Below w.heap.size w w7) := by rw [hw7]; exact Below.drew f3
    (try simp only [Exit.inBlock, Exit.then])
    refine bodyPost_ret (by simp [results, Try.results20]; rw [as_addr, Result.andThen_ok, HR1.out, Result.andThen_ok, as_addr, Result.andThen_ok, HR2.out, Result.andThen_ok]) rfl ?_
    have hrt := rd_tail (HR.out.below HB7.out (Nat.le_refl _)) HC0.out
    rw [if_neg hc1] at hrt
    exact ⟨⟨_, by first | rfl | rw [HX.out], ⟨_, _, by rw [List.length_drop, ← HN.out], hrt, (fun e => by cases e), by rw [List.length_drop, ← HN.out]; omega⟩, fun b' o' n' c' e => by simp only [Value.slice.injEq, Option.some.injEq, Addr.mk.injEq] at e; obtain ⟨⟨rfl, _⟩, _⟩ := e; exact ⟨_, _, _, rfl⟩⟩, HB7.out⟩
end PortC
end Go.Proofs.Ytllfpbngfkimlaa
