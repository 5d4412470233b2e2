/- Contracts of package dutyref: TurnsOf, whole. -/
import Derived.Test.YtgehdpohiphcpaaTabN
set_option linter.unusedVariables false
namespace Go.Proofs.Ytgehdpohiphcpaa
open Go.RowKit
open SpanM SpanC TabM
namespace TabC
/-- what TurnsOf tells -/
def TurnsR (size f t : Int) (l : List Win) (B : Nat) (e : Ending) (w' : World) : Prop :=
  (∃ v L, e = .returned (.tuple #[v, .bool true]) ∧ OwnW w' B v L ∧ Rle (wat size l) none f L t ∧ L.length ≤ 400) ∨
  (e = .returned (.tuple #[.slice none 0 0, .bool false]) ∧ ∃ c M, c ≤ t ∧ Rle (wat size l) none f M c ∧ 400 < M.length)
theorem edges_range {size : Int} {l : List Win} (h : wgood size 0 l = true) : ∀ y ∈ edges (spn l), 0 ≤ y ∧ y ≤ size := by
  have hx := wgood_each h
  clear h
  induction l with
  | nil => intro y hy; simp [spn, edges] at hy
  | cons x r ih =>
    intro y hy
    have h1 := hx x (by simp)
    unfold wfit at h1
    simp only [spn, List.map_cons, edges, List.mem_cons] at hy
    rcases hy with rfl | rfl | hy
    · omega
    · omega
    · exact ih (fun z hz => hx z (by simp [hz])) y hy
set_option maxRecDepth 20000 in
set_option maxHeartbeats 6400000 in
theorem turnsOf_any (size f t : Int) (a : Option Addr) (cap : Nat) (l : List Win) (w : World) (hr : Wns w a l) (hk : tchk size l = 0) (h1 : 0 ≤ f) (h2 : f ≤ t) (h3 : t ≤ 1099511627776) :
    Calls Try.prog 23 #[.agg #[.int .i64 size, .slice a l.length cap], .int .i64 f, .int .i64 t] w fun e w' => TurnsR size f t l w.heap.size e w' ∧ Below w.heap.size w w' := by
  obtain ⟨s1, s2, s3, s4⟩ := tchk_zero hk
  have HE := hid (fun W (h : Below w.heap.size w W) => edges_any size a cap l W (hr.below h (Nat.le_refl _)) hk)
  have HOO := hid (fun u (h0 : 0 ≤ u) (h1 : u ≤ 1099511627776) W (h : Below w.heap.size w W) => ownerOf_any size u a cap l W (hr.below h (Nat.le_refl _)) hk h0 (by omega))
  have HRG := hid (edges_range s4)
  have helen : (edges (spn l)).length ≤ 400 := by rw [edges_length, spn, List.length_map]; omega
  clear hr hk s4
  obtain ⟨i0, hi, hz0, hz1, hz2⟩ := info_parts infoWin
  have Hi := hid hi
  have Hz0 := hid hz0
  have Hz1 := hid hz1
  have Hz2 := hid hz2
  clear hi hz0 hz1 hz2
  go_enter Try.func23, Try.ntmps23
  go_wp2_with fail
  refine (HE.out _ (by go_grown)).mono ?_
  rintro e w1 ⟨⟨v1, rfl, ho1⟩, b1⟩
  have hs1 := b1.size
  simp only [World.size_alloc] at hs1
  have BX1 : Hid (Below (w.heap.size + 1) (w.alloc (.cells #[.int .i64 size, .slice a l.length cap] 24)) w1) := box1 b1
  have HO1 := hid ho1
  obtain ⟨p1, m1, c1, hv1⟩ := ho1.slice
  subst hv1
  clear b1 ho1
  go_wp2_with fail
  refine (sortI_all (w.heap.size + 1) _ (edges (spn l)) _ (HO1.out.base (by simp)) (by omega) (by omega)).mono ?_
  rintro e w2 ⟨rfl, ⟨E, hEl, hEm, hoE⟩, b2⟩
  have hs2 := b2.size
  have BX2 := hid (BX1.out.trans b2)
  have BW2 := hid (of_alloc BX2.out)
  have D0 : w2.cell? ⟨w.heap.size, 0, none⟩ = some (.int .i64 size) := boxc BX2.out 0
  have D1 : w2.cell? ⟨w.heap.size, 1, none⟩ = some (.slice a l.length cap) := boxc BX2.out 1
  have HOE := hid hoE
  have hm1 : m1 = E.length := by
    rcases hoE.form with ⟨e0, e1⟩ | ⟨g, cp, e0, _⟩
    · simp only [Value.slice.injEq] at e0; rw [e1]; exact e0.2.1
    · simp only [Value.slice.injEq] at e0; exact e0.2.1
  subst hm1
  have HEM := hid hEm
  have hElen : E.length ≤ 400 := by omega
  have HER : Hid (∀ y ∈ E, 0 ≤ y ∧ y ≤ size) := fun y hy => HRG.out y ((hEm y).1 hy)
  clear b2 hoE hEm hEl
  go_wp2_with fail
  go_loopw [9, 10] (fun v9 v10 wr => ∃ (A : Int) (acc : List Win), v10 = .int .i64 A ∧ f ≤ A ∧ A ≤ t ∧ Hid (Rle (wat size l) none f acc A) ∧ acc.length ≤ 400 ∧ OwnW wr w2.heap.size v9 acc ∧ Below w2.heap.size w2 wr) (fun _ v10 _ => (t - intOf v10).toNat)
  case atStart => exact ⟨f, [], rfl, by omega, by omega, rfl, by simp, OwnW.nil _ _, Below.refl _ _⟩
  case round =>
    obtain ⟨A, acc, rfl, hA0, hA1, hL, hal, ho, hb⟩ := hrel
    obtain ⟨w5, hw5⟩ : ∃ x, x = wr := ⟨_, rfl⟩
    subst hw5
    have HO := hid ho
    have HB := hid hb
    have hsz := hb.size
    have E0 := (hb.cell (p := ⟨w.heap.size, 0, none⟩) (by simp; omega)).trans D0
    have E1 := (hb.cell (p := ⟨w.heap.size, 1, none⟩) (by simp; omega)).trans D1
    have HOE5 := hid (HOE.out.below hb (Nat.le_refl _))
    obtain ⟨p9, n9, c9, hv9⟩ := ho.slice
    have hn9 : n9 = acc.length := by
      obtain ⟨_, _, e, _⟩ := ho.cells
      rw [hv9] at e
      simp only [Value.slice.injEq] at e
      exact e.2.1
    subst hn9
    subst hv9
    clear ho hb
    by_cases hlt : A < t
    · have m1 := Int.emod_nonneg A (show size ≠ 0 by omega)
      have m2 := Int.emod_lt_of_pos A (show 0 < size by omega)
      have m3 : A % size ≤ A := by
        have m3 := Int.emod_add_mul_ediv A size
        have q0 : 0 ≤ A / size := Int.ediv_nonneg (by omega) (by omega)
        have := Int.mul_nonneg (show 0 ≤ size by omega) q0
        omega
      have HLT := hid hlt
      go_wp2_with fail
      go_loopw [12, 37] (fun v12 v37 ws => ∃ (j : Nat) (N : Int), j ≤ E.length ∧ v12 = .int .i64 N ∧ v37 = .int .i64 j ∧ A < N ∧ N ≤ A - A % size + size ∧ Hid (∀ y ∈ E.take j, A - A % size + y ≤ A ∨ N ≤ A - A % size + y) ∧ ws = w5) (fun _ v37 _ => E.length - (intOf v37).toNat)
      case atStart => exact ⟨0, A - A % size + size, by omega, rfl, rfl, by omega, by omega, fun y hy => by simp at hy, rfl⟩
      case round =>
        obtain ⟨j, N, hj, rfl, rfl, hN0, hN1, hNE, hws⟩ := hrel
        have hws2 := hws.symm
        clear hws
        subst hws2
        by_cases hjl : j < E.length
        · have hg : ∃ g, p1 = some ⟨g, 0, none⟩ := by
            rcases HOE5.out.form with ⟨_, e1⟩ | ⟨g, cp, e0, _⟩
            · rw [e1] at hjl; simp at hjl
            · simp only [Value.slice.injEq] at e0; exact ⟨g, e0.1⟩
          obtain ⟨g, rfl⟩ := hg
          have d1 := HOE5.out.cell j hjl
          have hd := take_snoc 0 E j hjl
          have hy := HER.out (E.getD j 0) (by simp [List.getD, hjl])
          generalize E.getD j 0 = y at d1 hd hy
          have Hd := hid hd
          clear hd
          by_cases hyA : A < A - A % size + y
          · have HNN : Hid (∀ z ∈ E.take (j + 1), A - A % size + z ≤ A ∨ min N (A - A % size + y) ≤ A - A % size + z) := by
              intro z hz
              rw [Hd.out] at hz
              rcases List.mem_append.1 hz with hz | hz
              · have := hNE.out z hz; omega
              · simp at hz; subst hz; right; omega
            go_wp2_with fail
            all_goals
              go_roundw
              case rel => exact ⟨j + 1, _, by omega, rfl, by go_num, by omega, by omega, (by first | exact HNN | (intro z hz; have := HNN.out z hz; omega)), trivial⟩
              case measure => simp [intOf]; omega
          · have HNN : Hid (∀ z ∈ E.take (j + 1), A - A % size + z ≤ A ∨ N ≤ A - A % size + z) := by
              intro z hz
              rw [Hd.out] at hz
              rcases List.mem_append.1 hz with hz | hz
              · exact hNE.out z hz
              · simp at hz; subst hz; left; omega
            go_wp2_with fail
            go_roundw
            case rel => exact ⟨j + 1, N, by omega, rfl, by go_num, hN0, hN1, HNN, trivial⟩
            case measure => simp [intOf]; omega
        · rw [List.take_of_length_le (by omega)] at hNE
          have hV0 : A < (min N t) := by omega
          have hV1 : (min N t) ≤ t := by omega
          have hsame : ∀ u, A ≤ u → u < (min N t) → wat size l u = wat size l A := fun u k1 k2 => wat_same (N := (min N t)) s1 (by omega) (fun y hy => by have := hNE.out y ((HEM.out y).2 hy); omega) (by omega) k1 k2
          have HO6' := hid (HOO.out A (by omega) (by omega))
          obtain ⟨M, hM⟩ : ∃ M, wown l (A % size) = M := ⟨_, rfl⟩
          rw [hM] at HO6'
          have hL2 : Rle (wat size l) none f (addW acc (A, (min N t) - A, M)) (min N t) := by
            have := hL.out.add (w := (A, (min N t) - A, M)) (fun _ => rfl) (fun u hu => by
              unfold inW at hu
              simp only at hu ⊢
              rw [hsame u (by omega) (by omega), ← hM]; rfl)
            simp only at this
            rwa [show A + max 0 ((min N t) - A) = (min N t) by omega] at this
          have HL2 := hid hL2
          have hlen2 := addW_len acc (A, (min N t) - A, M)
          have HY : Hid (∀ y ∈ acc, 0 ≤ y.2.1 ∧ y.2.1 ≤ 2000000000000) := fun y hy => by
            obtain ⟨q1, q2, q3, _⟩ := hL.out.each y hy
            omega
          clear hL2 hsame hM hNE
          go_wp2_with fail
          refine (HO6'.out _ (BW2.out.trans (HB.out.mono (by omega)))).mono ?_
          rintro e w6 ⟨rfl, b6⟩
          have hs6 := b6.size
          have HB6 := hid (HB.out.trans (b6.mono hsz))
          have HO6 := hid (HO.out.below b6 (Nat.le_refl _))
          clear b6
          rcases TabM.nil_or_snoc acc with rfl | ⟨l', ⟨y1, y2, y3⟩, rfl⟩
          · simp only [List.length_nil] at HO6 ⊢
            go_wp2_with (at_builtin; refine wpList_append_new _ rfl _ _ 22 rfl w2.heap.size 50 i0 (.agg #[.int .i64 0, .int .i64 0, .int .i64 0]) 3 24 Try.underlying22 Hi.out Hz0.out Hz1.out Hz2.out rfl (by decide) _ 0 (flat3 ([] : List Win)) rfl ?qc0 ⟨w6.heap.size, 0, none⟩ 1 1 [.int .i64 A, .int .i64 ((min N t) - A), .int .i64 M] ?qcx ?qc1 ?qc2 ?qc3 ?qc4 ?qc5 ?qc6 (by decide) ?_)
            case qc0 => exact World.ownsRow.alloc HO6.out _
            case qcx => rfl
            case qc1 => simp
            case qc2 =>
              intro i u hi
              match i, hi with
              | 0, hi => simp at hi; subst hi; exact World.cell?_alloc_at _ _ _ _ (by simp)
              | 1, hi => simp at hi; subst hi; exact World.cell?_alloc_at _ _ _ _ (by simp)
              | 2, hi => simp at hi; subst hi; exact World.cell?_alloc_at _ _ _ _ (by simp)
              | i + 3, hi => simp at hi
            case qc3 => intro u hu; simp at hu; rcases hu with rfl | rfl | rfl <;> rfl
            case qc4 => unfold maxLen; simp
            case qc5 => simp
            case qc6 => first | omega | (simp; omega)
            intro v' w7 hown hgrow hnil hst
            have HB7 := hid (HB6.out.trans (Below.grown (Below.alloc (Below.refl _ _) (by omega) _) hgrow (by simp; omega) (fun k hk => (World.ownsRow.lt HO6.out k hk).1)))
            have HO7 : Hid (OwnW w7 w2.heap.size v' (addW [] (A, (min N t) - A, M))) := by
              rw [addW_nil (by simp only; omega)]
              show w7.ownsRow _ _ _ _ _ _
              simpa [flat3] using hown
            obtain ⟨p7, c7, hv7, _⟩ := HO7.out.cells
            have hl1 : (addW [] (A, (min N t) - A, M)).length = 1 := by rw [addW_nil (by simp only; omega)]; rfl
            rw [hl1] at hv7
            subst hv7
            clear hown hgrow hnil hst
            go_wp2_with fail
            go_roundw
            case rel => exact ⟨(min N t), _, rfl, by omega, by omega, HL2, by omega, HO7.out, HB7.out⟩
            case measure => have := HLT.out; simp [intOf]; omega
          · rcases HO6.out.form with ⟨_, e1⟩ | ⟨g, cp, hv, hg, hg2, _⟩
            · simp at e1
            · simp only [Value.slice.injEq] at hv
              obtain ⟨rfl, _, rfl⟩ := hv
              have hy2 := HY.out (y1, y2, y3) (by simp)
              simp only at hy2
              have hln : (l' ++ [(y1, y2, y3)]).length = l'.length + 1 := by simp
              have e1 := World.ownsRow.cellAt HO6.out (l'.length * 3 + 1) (by rw [hln]; omega)
              have e2 := World.ownsRow.cellAt HO6.out (l'.length * 3 + 2) (by rw [hln]; omega)
              obtain ⟨_, f1, f2⟩ := flat3_at (l' ++ [(y1, y2, y3)]) l'.length (by rw [hln]; omega)
              have e3 : (l' ++ [(y1, y2, y3)]).getD l'.length z3 = (y1, y2, y3) := by simp [List.getD]
              rw [f1, e3] at e1
              rw [f2, e3] at e2
              have e4 := World.ownsRow.frozenAt HO6.out (l'.length * 3 + 1)
              simp only at e1 e2
              clear f1 f2 e3
              have HO6q : Hid (OwnW w6 w2.heap.size (.slice (some ⟨g, 0, none⟩) (l'.length + 1) c9) (l' ++ [(y1, y2, y3)])) := by rw [← hln]; exact HO6.out
              have hq1 : l'.length + 1 ≤ 400 := by omega
              have HLN := hid hln
              rw [hln] at hlen2 ⊢
              clear hal hln HO6 HO
              generalize hq : l'.length = q at *
              have Hq := hid hq
              clear hq
              have hq3 : ((q + 1 : Nat) : Int) - 1 = (q : Int) := by omega
              have hq4 : (0 : Int) < ((q + 1 : Nat) : Int) := by omega
              by_cases hyM : y3 = M
              · subst hyM
                have hbq : (y3 == y3) = true := by simp
                have HSL : Hid (OwnW (w6.setCell ⟨g, q * 3 + 1, none⟩ (.int .i64 (y2 + ((min N t) - A)))) w2.heap.size (.slice (some ⟨g, 0, none⟩) (q + 1) c9) (addW (l' ++ [(y1, y2, y3)]) (A, (min N t) - A, y3))) := by
                  rw [addW_same (by simp only; omega) (by rfl)]
                  have h2 : OwnW w6 w2.heap.size (.slice (some ⟨g, 0, none⟩) (l' ++ [(y1, y2, y3)]).length c9) (l' ++ [(y1, y2, y3)]) := by rw [HLN.out]; exact HO6q.out
                  have h3 := h2.setLong (y2 + ((min N t) - A))
                  rw [Hq.out] at h3
                  have h4 : (l' ++ [((y1, y2, y3).1, y2 + ((min N t) - A), (y1, y2, y3).2.2)]).length = q + 1 := by simp [Hq.out]
                  rw [h4] at h3
                  exact h3
                have hl7 : (addW (l' ++ [(y1, y2, y3)]) (A, (min N t) - A, y3)).length = q + 1 := by rw [addW_same (by simp only; omega) (by rfl)]; simp [Hq.out]
                have HB7 := hid (Below.setCell (p := ⟨g, q * 3 + 1, none⟩) HB6.out hg (.int .i64 (y2 + ((min N t) - A))))
                go_wp2_with fail
                go_roundw
                case rel => exact ⟨(min N t), _, rfl, by omega, by omega, HL2, by omega, HSL.out, HB7.out⟩
                case measure => have := HLT.out; simp [intOf]; omega
              · have hbq : (y3 == M) = false := by simp [hyM]
                have HO6r : Hid (w6.ownsRow w2.heap.size 50 3 (.slice (some ⟨g, 0, none⟩) (q + 1) c9) (q + 1) (flat3 (l' ++ [(y1, y2, y3)]))) := by
                  have h : w6.ownsRow _ _ _ _ (l' ++ [(y1, y2, y3)]).length _ := HO6q.out
                  rw [HLN.out] at h
                  exact h
                go_wp2_with (at_builtin; refine wpList_append_new _ rfl _ _ 22 rfl w2.heap.size 50 i0 (.agg #[.int .i64 0, .int .i64 0, .int .i64 0]) 3 24 Try.underlying22 Hi.out Hz0.out Hz1.out Hz2.out rfl (by decide) _ (q + 1) (flat3 (l' ++ [(y1, y2, y3)])) rfl ?qc0 ⟨w6.heap.size, 0, none⟩ 1 1 [.int .i64 A, .int .i64 ((min N t) - A), .int .i64 M] ?qcx ?qc1 ?qc2 ?qc3 ?qc4 ?qc5 ?qc6 (by decide) ?_)
                case qc0 => exact World.ownsRow.alloc HO6r.out _
                case qcx => rfl
                case qc1 => simp
                case qc2 =>
                  intro i u hi
                  match i, hi with
                  | 0, hi => simp at hi; subst hi; exact World.cell?_alloc_at _ _ _ _ (by simp)
                  | 1, hi => simp at hi; subst hi; exact World.cell?_alloc_at _ _ _ _ (by simp)
                  | 2, hi => simp at hi; subst hi; exact World.cell?_alloc_at _ _ _ _ (by simp)
                  | i + 3, hi => simp at hi
                case qc3 => intro u hu; simp at hu; rcases hu with rfl | rfl | rfl <;> rfl
                case qc4 => unfold maxLen; omega
                case qc5 => omega
                case qc6 => first | omega | (simp; omega)
                intro v' w7 hown hgrow hnil hst
                have HB7 := hid (HB6.out.trans (Below.grown (Below.alloc (Below.refl _ _) (by omega) _) hgrow (by simp; omega) (fun k hk => (World.ownsRow.lt HO6r.out k hk).1)))
                have HO7 : Hid (OwnW w7 w2.heap.size v' (addW (l' ++ [(y1, y2, y3)]) (A, (min N t) - A, M))) := by
                  rw [addW_more (by simp only; omega) (by exact hyM)]
                  show w7.ownsRow _ _ _ _ _ _
                  rw [flat3_append, List.length_append, HLN.out]
                  exact hown
                have hl7 : (addW (l' ++ [(y1, y2, y3)]) (A, (min N t) - A, M)).length = q + 2 := by rw [addW_more (by simp only; omega) (by exact hyM)]; simp [Hq.out]
                obtain ⟨p7, c7, hv7, _⟩ := HO7.out.cells
                rw [hl7] at hv7
                subst hv7
                clear hown hgrow hnil hst
                by_cases h400 : 400 < q + 2
                · have h400' : (400 : Int) < ((q + 2 : Nat) : Int) := by omega
                  go_wp2_with fail
                  go_ret2
                  exact ⟨.inr ⟨rfl, (min N t), _, by omega, HL2.out, by omega⟩, BW2.out.trans (HB7.out.mono (by omega))⟩
                · have h400' : ¬ (400 : Int) < ((q + 2 : Nat) : Int) := by omega
                  go_wp2_with fail
                  go_roundw
                  case rel => exact ⟨(min N t), _, rfl, by omega, by omega, HL2, by omega, HO7.out, HB7.out⟩
                  case measure => have := HLT.out; simp [intOf]; omega
    · have hAt : A = t := by omega
      subst hAt
      go_wp2_with fail
      go_ret2
      exact ⟨.inl ⟨_, acc, rfl, HO.out.base (by omega), hL.out, hal⟩, BW2.out.trans (HB.out.mono (by omega))⟩
end TabC
end Go.Proofs.Ytgehdpohiphcpaa
