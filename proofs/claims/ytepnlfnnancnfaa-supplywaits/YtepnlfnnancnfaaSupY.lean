/- Contract of package dutyref: WaitOf. -/
import Derived.Test.YtepnlfnnancnfaaSupX
set_option linter.unusedVariables false
namespace Go.Proofs.Ytepnlfnnancnfaa
open Go.RowKit Go.Shelf
open SpanM SupM
namespace SpanC
set_option maxRecDepth 20000 in
set_option maxHeartbeats 1000000 in
theorem waitOf_any (size n : Int) (a : Option Addr) (cap : Nat) (l : List Sp) (w : World) (hr : Sps w a l) (hk : chk size l = 0) (hne : l ≠ []) (n1 : 1 ≤ n) (n2 : n ≤ 1000000) :
    Calls Try.prog 21 #[.agg #[.int .i64 size, .slice a l.length cap], .int .i64 n] w fun e w' => e = .returned (.int .i64 (wt size l n)) ∧ Below w.heap.size w w' := by
  obtain ⟨s1, s2, s3, s4⟩ := chk_zero hk
  have HN := hid (fun t (t1 : 0 ≤ t) (t2 : t ≤ 1000000) W (h : Below w.heap.size w W) => need_any size t n a cap l W (hr.below h (Nat.le_refl _)) hk hne t1 t2 n1 n2)
  have HR := hid hr
  have HG := hid s4
  clear hr hk hne s4
  go_enter Try.func21, Try.ntmps21
  go_wp2_with fail
  go_loopw [5, 11] (fun vw vi wr => ∃ k : Nat, k ≤ l.length ∧ vi = .int .i64 k ∧ (∃ M, vw = .int .i64 M ∧ Hid (lmax (fun x => fr size l x.2 n) 0 (l.take k) = M)) ∧ Below (w.heap.size + 1) (w.alloc (.cells #[.int .i64 size, .slice a l.length cap] 24)) wr) (fun _ vi _ => l.length - (intOf vi).toNat)
  case atStart => exact ⟨0, by omega, rfl, ⟨_, rfl, by show _ = _; simp [lmax]⟩, Below.refl _ _⟩
  case round =>
    obtain ⟨k, hk, rfl, ⟨M, rfl, HMn⟩, hb⟩ := hrel
    have hB := hid hb
    have c0 : wr.cell? ⟨w.heap.size, 0, none⟩ = some (.int .i64 size) := boxc hb 0
    have c1 : wr.cell? ⟨w.heap.size, 1, none⟩ = some (.slice a l.length cap) := boxc hb 1
    have hw0 : w.heap.size < wr.heap.size := World.block_lt_of_cell? _ _ c0
    by_cases hlt : k < l.length
    · obtain ⟨bb, off, rfl, hbw, d1, d2⟩ := HR.out.get hb k hlt
      obtain ⟨_, _, g3, g4, g5⟩ := good_at HG.out hlt
      have hd := take_snoc l k hlt
      generalize l.getD k (0, 0) = z at d1 d2 g3 g4 g5 hd
      obtain ⟨f, e⟩ := z
      simp only at d1 d2 g3 g4 g5
      have HNx := hid (HN.out e (by omega) (by omega))
      have HMx := hid (show lmax (fun x => fr size l x.2 n) 0 (l.take (k + 1)) = max M (fr size l e n) by rw [hd, lmax_snoc, HMn.out])
      have hbw2 : bb < wr.heap.size := by omega
      clear hd hb HMn
      generalize fr size l e n = Fe at *
      go_wp2_with fail
      refine (HNx.out _ (Below.alloc (of_alloc hB.out) (by omega) _)).mono ?_
      rintro e5 w5 ⟨rfl, b5⟩
      have hB5 := hid ((Below.alloc hB.out (by omega) _).trans (b5.mono (by simp; omega)))
      clear b5 c0 c1
      go_wp2_with fail
      go_roundw
      case rel => exact ⟨k + 1, by omega, by go_num, ⟨_, rfl, by first | exact HMx | (show _ = _; rw [HMx.out])⟩, hB5.out⟩
      case measure => simp [intOf]; omega
    · obtain rfl : k = l.length := by omega
      rw [List.take_length] at HMn
      have HF : Hid (wt size l n = M) := HMn.out
      clear hb
      go_wp2_with fail
      go_ret
      exact ⟨ret_int HF.out.symm, of_alloc hB.out⟩
end SpanC
end Go.Proofs.Ytepnlfnnancnfaa
