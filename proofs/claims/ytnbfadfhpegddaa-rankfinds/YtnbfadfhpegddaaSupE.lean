/- Contracts of package supply: end. -/
import Derived.Test.YtnbfadfhpegddaaSupB
set_option linter.unusedVariables false
namespace Go.Proofs.Ytnbfadfhpegddaa
open Go.RowKit Go.Shelf Go.Lib Go.Sort
open SpanM SupM
namespace SpanC
theorem ahL_count {size rest : Int} {l : List Sp} (hg : good size (-1) l = true) {k : Nat} (hk : k < l.length) (h1 : ah l k < rest) (h2 : rest ≤ ah l (k + 1)) : ((ahL l l.length).take (l.length + 1)).countP (· < rest) = k + 1 := by
  rw [List.take_of_length_le (by rw [ahL_len]; omega)]
  have at' : ∀ t, t < l.length + 1 → (ahL l l.length)[t]! = ah l t := fun t ht => by
    rw [getElem!_pos _ t (by rw [ahL_len]; exact ht)]; simp [ahL]
  refine Lib.countP_boundary _ _ (k + 1) (by rw [ahL_len]; omega) (fun t ht => ?_) (fun t h3 h4 => ?_)
  · rw [at' t (by omega)]
    have := (ah_mono hg (show t ≤ k by omega) (by omega)).1
    simp only [decide_eq_true_eq]; omega
  · rw [ahL_len] at h4
    rw [at' t h4]
    have := (ah_mono hg h3 (by omega)).1
    simp only [decide_eq_false_iff_not]; omega
theorem ahL_sorted {size : Int} {l : List Sp} (hg : good size (-1) l = true) : ((ahL l l.length).take (l.length + 1)).Pairwise (· ≤ ·) := by
  rw [List.take_of_length_le (by rw [ahL_len]; omega), List.pairwise_iff_getElem]
  intro i j hi hj hij
  rw [ahL_len] at hi hj
  simp only [ahL, List.getElem_map, List.getElem_range]
  exact (ah_mono hg (by omega) (by omega)).1
theorem bsearch_any (size rest : Int) (g c : Nat) (l : List Sp) (W : World) (hg : good size (-1) l = true) (hl : l.length ≤ 200) (ht : Tal W g l) {k : Nat} (hk : k < l.length) (h1 : ah l k < rest) (h2 : rest ≤ ah l (k + 1)) :
    Calls Try.prog 73 #[.slice (some ⟨g, 0, none⟩) (l.length + 1) c, .int .i64 rest] W fun e w' => (∃ x, e = .returned (.tuple #[.int .i64 (k + 1 : Nat), .bool x])) ∧ Below W.heap.size W w' := by
  have h := AnyG.slices_BinarySearch_int Ytnbfadfhpegddaa.bsearchInt g 0 (l.length + 1) c (ahL l l.length) rest W (by rw [ahL_len]; omega) (by omega) (fun j hj => by
    rw [ahL_len] at hj
    rw [Nat.zero_add, ahL_get _ _ _ (by omega)]
    exact ht j (by omega)) (ahL_sorted hg)
  rw [ahL_count hg hk h1 h2] at h
  refine Calls.mono h ?_
  rintro e w' ⟨rfl, q, rfl⟩
  exact ⟨⟨_, rfl⟩, below_drewN (Below.refl _ _) _⟩
set_option maxHeartbeats 1000000 in
theorem end_any (size n : Int) (a : Option Addr) (cap g c : Nat) (l : List Sp) (w : World) (hr : Sps w a l) (hk : chk size l = 0) (ht : Tal w g l) (hne : l ≠ []) (h0 : 1 ≤ n) (h1 : n ≤ 4000000) :
    Calls Try.prog 67 #[tal size a l.length cap g c, .int .i64 n] w fun e w' => e = .returned (.int .i64 (endT size l n)) ∧ Below w.heap.size w w' := by
  obtain ⟨s1, s2, s3, s4⟩ := chk_zero hk
  have hL := tot_pos s4 hne
  obtain ⟨a1, a2, a3, a4, a5, a6⟩ := rest_bd hL h0
  obtain ⟨k, k1, k2, k3⟩ := ah_find s4 a2 a3
  have hL2 := (ah_bd s1 s4 (Nat.le_refl l.length)).2.2
  have hEnd := end_eq s1 s4 a1 k1 k2 k3
  rw [show (n - 1) / ah l l.length * ah l l.length + (n - (n - 1) / ah l l.length * ah l l.length) = n by omega] at hEnd
  have HE := hid (endT_eq s1 s4 hEnd)
  have hkb := ah_bd s1 s4 (show k ≤ l.length by omega)
  obtain ⟨_, _, g3, g4, g5⟩ := good_at s4 k1
  obtain ⟨b, off, rfl, hbw, d1, d2⟩ := hr.at k k1
  have d3 := ht k (by omega)
  have HPr := hid (fun V (h : Below w.heap.size w V) => per_any size (some ⟨b, off, none⟩) cap g c l V (ht.below h) s3)
  have HBs := hid (fun V (h : Below w.heap.size w V) => bsearch_any size (n - (n - 1) / ah l l.length * ah l l.length) g c l V s4 s3 (ht.below h) k1 k2 k3)
  have hq : (n - 1) / ah l l.length * size ≤ 4000000000000 := by
    have m := Int.mul_le_mul_of_nonneg_right (show (n - 1) / ah l l.length ≤ 4000000 by omega) (show 0 ≤ size by omega)
    omega
  have hq0 : 0 ≤ (n - 1) / ah l l.length * size := Int.mul_nonneg a1 (by omega)
  have ht1 : (n - 1).tdiv (ah l l.length) = (n - 1) / ah l l.length := Int.tdiv_eq_ediv_of_nonneg (by omega)
  have hz1 : ¬ ah l l.length = 0 := by omega
  have hz2 : (ah l l.length == 0) = false := by simp [hz1]
  clear hr hk ht hne hEnd
  generalize l.getD k (0, 0) = z at *
  obtain ⟨f, e⟩ := z
  simp only at d1 d2 g3 g4 g5 HE
  obtain ⟨k4, k5, k6⟩ := hkb
  generalize ah l k = A at *
  generalize ah l l.length = L at *
  obtain ⟨m, hm⟩ : ∃ m, m = l.length + 1 := ⟨_, rfl⟩
  have q1 : (k : Int) < (m : Int) := by omega
  have q2 : (k : Int) < (l.length : Int) := by omega
  show Calls Try.prog _ #[.agg #[.int .i64 size, .slice (some ⟨b, off, none⟩) l.length cap, .slice (some ⟨g, 0, none⟩) (l.length + 1) c], .int .i64 n] w _
  unfold tal at HPr
  rw [← hm] at HPr HBs ⊢
  obtain ⟨M, hM⟩ : ∃ M : Nat, M = k + 1 := ⟨_, rfl⟩
  rw [← hM] at HBs
  have hM1 : (M : Int) - 1 = (k : Int) := by omega
  have hM2 : (M : Int) ≤ 1000 := by omega
  clear hm k3 hM
  have D1 := hid d1
  have D3 := hid d3
  clear d1 d2 d3
  go_enter Try.func67, Try.ntmps67
  go_wp2_with fail
  refine (HPr.out _ (by go_grown)).mono ?_
  rintro e1 w1 ⟨rfl, b1⟩
  have HB1 : Hid (Below (w.heap.size + 1) (w.alloc (.cells #[.int .i64 size, .slice (some ⟨b, off, none⟩) l.length cap, .slice (some ⟨g, 0, none⟩) m c] 84)) w1) := box1 b1
  clear b1
  have c0 : w1.cell? ⟨w.heap.size, 0, none⟩ = some (.int .i64 size) := boxc HB1.out 0
  have c1 : w1.cell? ⟨w.heap.size, 1, none⟩ = some (.slice (some ⟨b, off, none⟩) l.length cap) := boxc HB1.out 1
  have c2 : w1.cell? ⟨w.heap.size, 2, none⟩ = some (.slice (some ⟨g, 0, none⟩) m c) := boxc HB1.out 2
  generalize hQ : (n - 1) / L = Q at *
  have HQ := hid hQ
  clear hQ
  go_wp2_with fail
  refine (HPr.out _ (of_alloc HB1.out)).mono ?_
  rintro e2 w2 ⟨rfl, b2⟩
  have HB2 : Hid (Below (w.heap.size + 1) (w.alloc (.cells #[.int .i64 size, .slice (some ⟨b, off, none⟩) l.length cap, .slice (some ⟨g, 0, none⟩) m c] 84)) w2) := box2 HB1.out b2
  clear b2 c0 c1 c2
  have c0 : w2.cell? ⟨w.heap.size, 0, none⟩ = some (.int .i64 size) := boxc HB2.out 0
  have c1 : w2.cell? ⟨w.heap.size, 1, none⟩ = some (.slice (some ⟨b, off, none⟩) l.length cap) := boxc HB2.out 1
  have c2 : w2.cell? ⟨w.heap.size, 2, none⟩ = some (.slice (some ⟨g, 0, none⟩) m c) := boxc HB2.out 2
  go_wp2_with fail
  refine (HBs.out _ (of_alloc HB2.out)).mono ?_
  rintro e3 w3 ⟨⟨x3, rfl⟩, b3⟩
  have HB3 : Hid (Below (w.heap.size + 1) (w.alloc (.cells #[.int .i64 size, .slice (some ⟨b, off, none⟩) l.length cap, .slice (some ⟨g, 0, none⟩) m c] 84)) w3) := box2 HB2.out b3
  clear b3 c0 c1 c2
  have c0 : w3.cell? ⟨w.heap.size, 0, none⟩ = some (.int .i64 size) := boxc HB3.out 0
  have c1 : w3.cell? ⟨w.heap.size, 1, none⟩ = some (.slice (some ⟨b, off, none⟩) l.length cap) := boxc HB3.out 1
  have c2 : w3.cell? ⟨w.heap.size, 2, none⟩ = some (.slice (some ⟨g, 0, none⟩) m c) := boxc HB3.out 2
  have x1 := ((of_alloc HB3.out).cell (World.block_lt_of_cell? _ _ D1.out)).trans D1.out
  have x2 := ((of_alloc HB3.out).cell (World.block_lt_of_cell? _ _ D3.out)).trans D3.out
  go_wp2_with fail
  go_quiet (fail)
  go_wp2_with fail
  go_ret
  refine ⟨ret_int ?_, below_drewN (of_alloc HB3.out) _⟩
  rw [HE.out]
end SpanC
end Go.Proofs.Ytnbfadfhpegddaa
