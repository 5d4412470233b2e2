/- Package vm: do: what goes out. -/
import Derived.Test.YtceflfdpbgnfjaaVmF
import Derived.Deep.AppendLies
import Derived.Deep.DrawnRows
set_option linter.unusedVariables false
namespace Go.Proofs.Ytceflfdpbgnfjaa
open Go.RowKit
open Go.Shelf Go.Sort
open SpanM hiding good
open SpanC IntsC
open RowsO hiding Em
namespace VmC
open VmP
open NumC (Row)
attribute [local go_sem ↓] Go.wp_at_zero Go.wp_at_succ
variable {w0 W : World} {x : Inp} {bx g cap : Nat} {s : St} {took : Nat} {ov : Value} {out : List Em}
theorem Mc.append {w4 : World} {ov' : Value} {out' : List Em} (h : Mc w0 W x bx g cap s took ov out) (ho : OwnEm w4 w0.heap.size ov' out') (hg : W.grownBy w4 ov.ownBlock) : Mc w0 (w4.setCell ⟨bx, 7, none⟩ ov') x bx g cap s took ov' out' := by
  have hge : ∀ q, ov.ownBlock = some q → w0.heap.size ≤ q := fun q hq => (World.ownsRow.lt h.out q hq).1
  have hb4 : w4.heap[bx]? = some (.cells (mcC x g cap s took ov) 53) := box_grown h.box hg (fun e => row_ne_box h.out h.box (by decide) e.symm)
  have hr4 : OwnI w4 w0.heap.size (vS g 8 cap) s.regs := World.ownsRow.kept h.regs hg (rows_ne h.regs h.out (by decide))
  refine ⟨(h.bel.grown hg h.bel.size hge).setCell (p := ⟨bx, 7, none⟩) h.cb _, ?_, ?_, ?_, h.cb⟩
  · rw [heap_setCell_same _ _ _ _ _ _ hb4]; simp
  · exact ownsRow_setCell_other hr4 (fun e => h.ne (by simpa [Value.ownBlock] using e.symm)) _
  · exact ownsRow_setCell_other ho (row_ne_box ho hb4 (by decide)) _
set_option maxRecDepth 20000 in
set_option maxHeartbeats 16000000 in
theorem do_out (h : Mc w0 W x bx g cap s took ov out) (a : Nat) (b : Int) (ha : a < 8) (hl : out.length ≤ 5000) :
    Calls Try.prog 38 #[pM bx, vIn 10 a b] W fun e W' => e = .returned (.tuple #[]) ∧ ∃ ov', Mc w0 W' x bx g cap s took ov' (out ++ [(b, s.regs.getD a 0)]) := by
  obtain ⟨i0, hi, hz0, hz1, hz2⟩ := info_parts infoEm
  have Hi := hid hi
  have Hz0 := hid hz0
  have Hz1 := hid hz1
  have Hz2 := hid hz2
  clear hi hz0 hz1 hz2
  have mixed := mixd
  have r1 := h.reg ha
  have hn := h.ne
  have hgl := h.ge.2
  have hlt := h.lt
  have i1 : (a : Int) < 8 := by omega
  have HM1 := hid (h.alloc (.cells #[.int .i64 10, .int .i64 a, .int .i64 b] 45))
  have bb := box_new W #[.int .i64 10, .int .i64 a, .int .i64 b] 45
  have b1 : (W.alloc (.cells #[.int .i64 10, .int .i64 a, .int .i64 b] 45)).cell? ⟨W.heap.size, 1, none⟩ = some (.int .i64 a) := box_cell bb 1
  have b2 : (W.alloc (.cells #[.int .i64 10, .int .i64 a, .int .i64 b] 45)).cell? ⟨W.heap.size, 2, none⟩ = some (.int .i64 b) := box_cell bb 2
  have q1 := Lib.cell?_alloc_some (.cells #[.int .i64 10, .int .i64 a, .int .i64 b] 45) r1
  have hsz : (W.alloc (.cells #[.int .i64 10, .int .i64 a, .int .i64 b] 45)).heap.size = W.heap.size + 1 := World.size_alloc _ _
  clear h
  generalize s.regs.getD a 0 = ra at *
  obtain ⟨oa, on, oc, hov⟩ : ∃ oa on oc, ov = .slice oa on oc := OwnEm.slice HM1.out.out
  subst hov
  go_enter Try.func38, Try.ntmps38
  go_wp2_with fail
  have d1 := HM1.out.c 1
  have d7 := HM1.out.c 7
  have f7 := froz_box HM1.out.box 7
  simp at d1 d7
  clear r1 bb
  generalize W.alloc (.cells #[.int .i64 10, .int .i64 a, .int .i64 b] 45) = W1 at *
  have hw1 : W.heap.size < W1.heap.size := by omega
  have hw2 : bx < W1.heap.size := by omega
  have hw3 : g < W1.heap.size := by omega
  generalize W.heap.size = bn at *
  have HM2 := hid ((HM1.out.alloc (.cells #[.int .i64 b, .int .i64 ra] 39)).drew)
  have hnews : ∀ j u, (encEm (b, ra))[j]? = some u → (W1.alloc (.cells #[.int .i64 b, .int .i64 ra] 39)).drew.cell? ((⟨W1.heap.size, 0, none⟩ : Addr).add j) = some u := World.news_of_block (heap_alloc_new W1 _)
  have hsz3 : (W1.alloc (.cells #[.int .i64 b, .int .i64 ra] 39)).drew.heap.size = W1.heap.size + 1 := World.size_alloc _ _
  have hB3 : w0.heap.size ≤ (W1.alloc (.cells #[.int .i64 b, .int .i64 ra] 39)).drew.heap.size := by rw [hsz3]; have := HM1.out.bel.size; omega
  have k1 : ∀ u ∈ encEm (b, ra), u.oneCell' = true := by intro u hu; simp [encEm] at hu; rcases hu with rfl | rfl <;> rfl
  have k2 : out.length + 1 ≤ maxLen := by unfold maxLen; omega
  have k3 : (out.length + 1) * 16 ≤ 140737488355328 := by omega
  have hob := hid HM2.out.out
  have HN := hid hnews
  have HZ := hid hsz3
  have HB := hid hB3
  clear hnews hsz3 hB3 hsz
  go_region_law
    (first | (refine step_append_lies _ (by rfl) _ _ _ (by rfl) w0.heap.size 39 i0 (.agg #[.int .i64 0, .int .i64 0]) 2 16 Try.underlying26 Hi.out Hz0.out Hz1.out Hz2.out rfl (by decide) _ out.length (flatEm out) (by rfl) hob.out ⟨W1.heap.size, 0, none⟩ 1 1 (encEm (b, ra)) (by rfl) (by rfl) HN.out k1 (by decide) k2 k3 HB.out (W1.heap.size + 1) HZ.out ?_
              intro g4 cp w4 hown hgrow hat hlt4
              have ho4 : OwnEm w4 w0.heap.size (.slice (some ⟨g4, 0, none⟩) (out.length + 1) cp) (out ++ [(b, ra)]) := (by unfold OwnEm; rw [flatEm_append, List.length_append]; exact hown)
              have HM4 := hid (HM2.out.append ho4 hgrow)
              have hb4 := box_grown HM2.out.box hgrow (fun e => row_ne_box HM2.out.out HM2.out.box (by decide) e.symm)
              have e7 := box_cell hb4 7
              have g7 := froz_box hb4 7
              simp at e7
              clear hown hgrow hat hlt4 ho4 hb4))
  all_goals go_wp2
  all_goals go_end0
  all_goals exact ⟨rfl, _, HM4.out⟩
end VmC
end Go.Proofs.Ytceflfdpbgnfjaa
