/- The document's own answers about ports: PortDone where it does something (gen_prtu.py writes this text). -/
import Derived.Test.YtllfpbngfkimlaaPrtT
set_option linter.unusedVariables false
namespace Go.Proofs.Ytllfpbngfkimlaa
open Go.RowKit
open Go.Shelf Go.Sort
open SpanM SpanC IntsC
namespace PortC
open PrtM
theorem D3.setq {w W : World} {p o r t : Array Value} (h : D3 w W p o r t) (j : Nat) (v : Value) : D3 w (W.setCell ⟨w.heap.size + 1 + 1 + 1 + 1, j, none⟩ v) p o r t :=
  ⟨(heap_setCell_other _ _ _ _ (by dsimp only; omega)).trans h.p, (heap_setCell_other _ _ _ _ (by dsimp only; omega)).trans h.o, (heap_setCell_other _ _ _ _ (by dsimp only; omega)).trans h.r, (heap_setCell_other _ _ _ _ (by dsimp only; omega)).trans h.t, bel_set h.b _ _ _ (by omega)⟩
theorem D3.drew {w W : World} {p o r t : Array Value} (h : D3 w W p o r t) : D3 w W.drew p o r t := ⟨h.p, h.o, h.r, h.t, h.b.drew⟩
theorem eqNilS (w : World) (a : Option Addr) (n c n' c' : Nat) : (binOp .eql 34 (.slice a n c) (.slice none n' c')).run Try.prog w = .ok (.bool a.isNone) w := Lib.run_eql_slice_nil w _ _ a n c n' c' Try.underlying34
set_option maxRecDepth 20000 in
theorem cloneS_any (a : Option Addr) (c : Nat) (l : List ByteArray) (w : World) (hr : RdS w a l) (hn : a = none → l.length = 0 ∧ c = 0) (hl : l.length ≤ 100000) :
    Calls Try.prog 25 #[.slice a l.length c] w fun e w' => (∃ v, e = .returned v ∧ OwnS w' w.heap.size v l) ∧ Below w.heap.size w w' := by
  have q := eqNilS
  cases a with
  | none =>
    obtain ⟨h1, h2⟩ := hn rfl
    have h3 : l = [] := List.length_eq_zero_iff.1 h1
    subst h3 h2
    clear hr hn hl h1
    go_enter Try.func25, Try.ntmps25
    go_wp2_with fail
    go_ret
    exact ⟨⟨_, rfl, RowG.Own.nil _ _ _ _⟩, Below.refl _ _⟩
  | some ad =>
    have HR := hid hr
    have HN := hid hn
    have HL := hid hl
    clear hr hn hl
    go_enter Try.func25, Try.ntmps25
    go_wp2_with (at_builtin; refine wpList_appS rfl _ _ rfl w.heap.size (.slice (some ⟨w.heap.size, 0, none⟩) 0 0) [] l (some ad) c rfl (World.ownsRow_made w #[] 0 (Nat.le_refl _) (Nat.zero_le _) rfl) rfl (HR.out.below ((Below.refl _ w).alloc (Nat.le_refl _) _) (Nat.le_refl _)) HN.out (by have := HL.out; simp; omega) (by rw [World.size_alloc]; omega) ?_; intro v' w' ho hg; have HO := hid ho; have HG := hid hg; clear ho hg)
    obtain ⟨a9, c9, rfl⟩ := RowG.Own.slice HO.out
    go_wp2_with fail
    go_ret
    exact ⟨⟨_, rfl, HO.out⟩, Below.grown ((Below.refl _ w).alloc (Nat.le_refl _) _) HG.out (by rw [World.size_alloc]; omega) (by intro k hk; simp [Value.ownBlock] at hk; omega)⟩
set_option maxRecDepth 20000 in
set_option maxHeartbeats 1600000 in
theorem pd_sam_rd (sz rm fr tm now : Int) (a : Option Addr) (c : Nat) (l : List ByteArray) (s : ByteArray) (w : World) (h2 : tm ≤ now ∧ now ≤ 1099511627776) (h3 : 0 ≤ tm ∧ 0 ≤ fr ∧ fr ≤ 1099511627776) (hr : RdS w a l) (h0 : 0 < l.length) :
    Calls Try.prog 20 #[.agg #[.int .i64 1, .int .i64 sz, .int .i64 rm, .int .i64 fr, .slice a l.length c, .int .i64 tm], .agg #[.int .i64 2, .int .i64 now, .string s]] w fun e w' => (∃ u, e = .returned (.tuple #[.agg #[.int .i64 1, .int .i64 sz, .int .i64 rm, .int .i64 fr, .slice a l.length c, .int .i64 tm], .agg #[.string (l.getD 0 e0), .bool (decide (now - tm ≤ fr)), .int .i64 0]]) ∧ u = Value.slice a l.length c) ∧ Below w.heap.size w w' := by
  have hw : IntKind.i64.wrap (tm + fr) = tm + fr := by rw [IntKind.wrap_i64]; omega
  have HDD : Hid (decide (now - tm ≤ fr) = decide (now ≤ tm + fr)) := decide_eq_decide.2 (by omega)
  rw [HDD.out]
  have H1 := hid (fun wx => bet_yes 2 1 2 wx (by decide))
  have H2 := hid (fun wx => bet_yes now tm 1099511627776 wx h2)
  obtain ⟨b, off, rfl, hx⟩ := RdS.get hr 0 h0
  rw [Nat.add_zero] at hx
  have hb := World.block_lt_of_cell? w _ hx
  generalize hX : l.getD 0 e0 = X at hx
  have HX := hid hX
  obtain ⟨n, hn⟩ : ∃ n, n = l.length := ⟨_, rfl⟩
  rw [← hn] at h0 ⊢
  have i1 : (0 : Int) < (n : Int) := by omega
  have i2 : ((n : Int) == 0) = false := by simp; omega
  have X0 := hid (D3.alloc (D3.start4 w #[.int .i64 1, .int .i64 sz, .int .i64 rm, .int .i64 fr, .slice (some ⟨b, off, none⟩) n c, .int .i64 tm] #[.int .i64 2, .int .i64 now, .string s] #[.int .i64 0, .int .i64 0, .int .i64 0, .int .i64 0, .slice none 0 0, .int .i64 0] #[.string e0, .bool false, .int .i64 0]) (.cells #[.int .i64 1, .int .i64 sz, .int .i64 rm, .int .i64 fr, .slice (some ⟨b, off, none⟩) n c, .int .i64 tm] 36))
  clear h2 h3 hr h0 hX HDD hn
  go_enter Try.func20, Try.ntmps20
  go_wp2_with (first | (go_at_call 12; (with_reducible refine (H1.out _).mono ?_); rintro e wb ⟨rfl, rfl⟩) | (go_at_call 12; (with_reducible refine (H2.out _).mono ?_); rintro e wb ⟨rfl, rfl⟩))
  obtain ⟨w5, hw5⟩ : ∃ y, y = (((((w.alloc (.cells #[.int .i64 1, .int .i64 sz, .int .i64 rm, .int .i64 fr, .slice (some ⟨b, off, none⟩) n c, .int .i64 tm] 36)).alloc (.cells #[.int .i64 2, .int .i64 now, .string s] 48)).alloc (.cells #[.int .i64 0, .int .i64 0, .int .i64 0, .int .i64 0, .slice none 0 0, .int .i64 0] 36)).alloc (.cells #[.string e0, .bool false, .int .i64 0] 44)).alloc (.cells #[.int .i64 1, .int .i64 sz, .int .i64 rm, .int .i64 fr, .slice (some ⟨b, off, none⟩) n c, .int .i64 tm] 36)) := ⟨_, rfl⟩
  rw [← hw5]
  have X4 : Hid (D3 w w5 #[.int .i64 1, .int .i64 sz, .int .i64 rm, .int .i64 fr, .slice (some ⟨b, off, none⟩) n c, .int .i64 tm] #[.int .i64 2, .int .i64 now, .string s] #[.int .i64 0, .int .i64 0, .int .i64 0, .int .i64 0, .slice none 0 0, .int .i64 0] #[.string e0, .bool false, .int .i64 0]) := by rw [hw5]; exact X0.out
  have hx5 := (X4.out.b.cell hb).trans hx
  have n1 : ¬ b = w.heap.size + 1 + 1 := by omega
  have n2 : ¬ w.heap.size + 1 + 1 = b := by omega
  have n3 : ¬ b = w.heap.size + 1 + 1 + 1 := by omega
  have n4 : ¬ w.heap.size + 1 + 1 + 1 = b := by omega
  clear hw5 hx hb
  obtain ⟨p0, p1, p2, p3, p4, p5⟩ := six_of X4.out.p
  obtain ⟨o0, o1, o2⟩ := three_of X4.out.o
  obtain ⟨r0, r1, r2, r3, r4, r5⟩ := six_of X4.out.r
  obtain ⟨s0, s1, s2⟩ := three_of X4.out.t
  have m0 := froz_of X4.out.r 0
  have m1 := froz_of X4.out.r 1
  have m2 := froz_of X4.out.r 2
  have m3 := froz_of X4.out.r 3
  have m4 := froz_of X4.out.r 4
  have m5 := froz_of X4.out.r 5
  have k0 := froz_of X4.out.t 0
  have k1 := froz_of X4.out.t 1
  have k2 := froz_of X4.out.t 2
  go_region
  go_wp2_with fail
  obtain ⟨w7, hw7⟩ : ∃ y, y = (st3 (st6 w5 (w.heap.size + 1 + 1) (.int .i64 1) (.int .i64 sz) (.int .i64 rm) (.int .i64 fr) (.slice (some ⟨b, off, none⟩) n c) (.int .i64 tm)) (w.heap.size + 1 + 1 + 1) (.string X) (.bool (decide (now ≤ tm + fr))) (.int .i64 0)).drew := ⟨_, rfl⟩
  have hw8 := hw7
  simp only [st6, st3] at hw8
  rw [← hw8]
  clear hw8
  obtain ⟨f1, f2, f3⟩ := D3.fin X4.out (.int .i64 1) (.int .i64 sz) (.int .i64 rm) (.int .i64 fr) (.slice (some ⟨b, off, none⟩) n c) (.int .i64 tm) (.string X) (.bool (decide (now ≤ tm + fr))) (.int .i64 0)
  have HR1 : Hid (Sem.run Try.prog (loadVar 36 ⟨w.heap.size + 1 + 1, 0, none⟩) w7 = .ok (.agg #[.int .i64 1, .int .i64 sz, .int .i64 rm, .int .i64 fr, .slice (some ⟨b, off, none⟩) n c, .int .i64 tm]) w7) := by
    refine load_port ?_
    rw [hw7, heap_drew]
    exact f1
  have HR2 : Hid (Sem.run Try.prog (loadVar 44 ⟨w.heap.size + 1 + 1 + 1, 0, none⟩) w7 = .ok (.agg #[.string X, .bool (decide (now ≤ tm + fr)), .int .i64 0]) w7) := by
    refine load_ans ?_
    rw [hw7, heap_drew]
    exact f2
  have HB7 : Hid (Below w.heap.size w w7) := by rw [hw7]; exact Below.drew f3
  (try simp only [Exit.inBlock, Exit.then])
  refine bodyPost_ret (by simp [results, Try.results20]; rw [as_addr, Result.andThen_ok, HR1.out, Result.andThen_ok, as_addr, Result.andThen_ok, HR2.out, Result.andThen_ok]) rfl ?_
  exact ⟨⟨_, by first | rfl | rw [HX.out], rfl⟩, HB7.out⟩
end PortC
end Go.Proofs.Ytllfpbngfkimlaa
