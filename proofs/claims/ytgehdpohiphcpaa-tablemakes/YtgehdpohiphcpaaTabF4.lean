/- slices.Insert of one window. -/
import Derived.Test.YtgehdpohiphcpaaTabF3
set_option linter.unusedVariables false
namespace Go.Proofs.Ytgehdpohiphcpaa
open Go.RowKit Go.Shelf
open SpanM SpanC TabM
namespace TabC
set_option maxRecDepth 20000 in
set_option maxHeartbeats 1600000 in
theorem ins_end (B vb : Nat) (a : Option Addr) (c : Nat) (L : List Win) (x : Win) (w : World) (ho : OwnW w B (.slice a L.length c) L) (hB : B ≤ w.heap.size) (hl : L.length ≤ 300) (hc : L.length ≤ c) (hcm : c ≤ 9223372036854775807)
    (hv : w.heap[vb]? = some (.cells #[.int .i64 x.1, .int .i64 x.2.1, .int .i64 x.2.2] 50)) :
    Calls Try.prog 50 #[.slice a L.length c, .int .i64 L.length, .slice (some ⟨vb, 0, none⟩) 1 1] w fun e w' => ∃ v', e = .returned v' ∧ OwnW w' B v' (L ++ [x]) ∧ w.grownBy w' (Value.slice a L.length c).ownBlock ∧ Stays w (Value.slice a L.length c) v' := by
  obtain ⟨i0, hi, hz0, hz1, hz2⟩ := info_parts infoWin
  have Hi := hid hi
  have Hz0 := hid hz0
  have Hz1 := hid hz1
  have Hz2 := hid hz2
  clear hi hz0 hz1 hz2
  have HO := hid ho
  have HV := hid hv
  have hform : (a = none ∧ L.length = 0 ∧ c = 0) ∨ ∃ g, a = some ⟨g, 0, none⟩ := by
    rcases ho.form with ⟨e, h0⟩ | ⟨g, cap, e, _⟩
    · simp only [Value.slice.injEq] at e; exact .inl e
    · simp only [Value.slice.injEq] at e; exact .inr ⟨g, e.1⟩
  clear ho hv
  generalize hn : L.length = n at *
  have Hn := hid hn
  clear hn
  have hz2 : ((n : Int) == (n : Int)) = true := by simp
  have HON : Hid (w.ownsRow B 50 3 (.slice a n c) n (flat3 L)) := by
    have h : w.ownsRow _ _ _ _ L.length _ := HO.out
    rw [Hn.out] at h
    exact h
  have hform3 : (a = none ∧ n = 0 ∧ c = 0) ∨ (∃ g, a = some ⟨g, 0, none⟩ ∧ n = c) ∨ (∃ g, a = some ⟨g, 0, none⟩ ∧ ¬ c = n) := by
    rcases hform with h | ⟨g, h⟩
    · exact .inl h
    · by_cases hcn : n = c
      · exact .inr (.inl ⟨g, h, hcn⟩)
      · exact .inr (.inr ⟨g, h, fun e => hcn e.symm⟩)
  clear hform
  rcases hform3 with ⟨rfl, rfl, rfl⟩ | ⟨g, rfl, rfl⟩ | ⟨g, rfl, hcn⟩
  all_goals
    go_enter Try.func50, Try.ntmps50
    go_wp2_with (at_builtin; refine wpList_append_new _ rfl _ _ 22 rfl B 50 i0 (.agg #[.int .i64 0, .int .i64 0, .int .i64 0]) 3 24 Try.underlying22 Hi.out Hz0.out Hz1.out Hz2.out rfl (by decide) _ _ (flat3 L) rfl HON.out ⟨vb, 0, none⟩ 1 1 (flat3 [x]) rfl ?qc1 ?qc2 ?qc3 ?qc4 ?qc5 ?qc6 (by decide) ?_)
    case qc1 => rfl
    case qc2 => intro j u hj; rw [add_lit', Nat.zero_add, cell_blk HV.out]; exact flat3_get x j u hj
    case qc3 => exact flat3_one _
    case qc4 => unfold maxLen; omega
    case qc5 => omega
    case qc6 => exact hB
    intro v' w1 hown hgrow hnil hst
    have HST := hid (Stays.of (w := w) hst (Nat.le_refl _))
    have HO1 : Hid (OwnW w1 B v' (L ++ [x])) := by
      show w1.ownsRow _ _ _ _ _ _
      rw [flat3_append, List.length_append, Hn.out]
      exact hown
    have HG := hid hgrow
    clear hown hgrow hnil hst
    obtain ⟨p1, n1, c1, rfl⟩ := HO1.out.slice
    go_wp2_with fail
    go_ret
    exact ⟨_, rfl, HO1.out, HG.out, HST.out⟩
theorem insert_any (B vb i : Nat) (v : Value) (L : List Win) (x : Win) (w : World) (ho : OwnW w B v L) (hB : B ≤ w.heap.size) (hi : i ≤ L.length) (hl : L.length ≤ 300)
    (hv : w.heap[vb]? = some (.cells #[.int .i64 x.1, .int .i64 x.2.1, .int .i64 x.2.2] 50)) (hne : some vb ≠ v.ownBlock) :
    Calls Try.prog 50 #[v, .int .i64 i, .slice (some ⟨vb, 0, none⟩) 1 1] w fun e w' => ∃ v', e = .returned v' ∧ OwnW w' B v' (L.take i ++ x :: L.drop i) ∧ w.grownBy w' v.ownBlock ∧ Stays w v v' := by
  obtain ⟨a, c, rfl, hc, hcm, _⟩ := ho.cells
  have hcm' : c ≤ 9223372036854775807 := by unfold maxLen at hcm; omega
  by_cases hend : i = L.length
  · subst hend
    refine (ins_end B vb a c L x w ho hB hl hc hcm' hv).mono ?_
    rintro e w' ⟨v', he, h1, h2, h3⟩
    refine ⟨v', he, ?_, h2, h3⟩
    rw [List.take_length, List.drop_length]
    exact h1
  · have hlt : i < L.length := by omega
    have hg : ∃ g, a = some ⟨g, 0, none⟩ := by
      rcases ho.form with ⟨_, h0⟩ | ⟨g, cap, e, _⟩
      · rw [h0] at hlt; simp at hlt
      · simp only [Value.slice.injEq] at e; exact ⟨g, e.1⟩
    obtain ⟨g, rfl⟩ := hg
    by_cases hroom : L.length + 1 ≤ c
    · refine (ins_room B g c vb i L x w ho hlt hl hroom hcm' hv (fun e => hne (by rw [e]; rfl))).mono ?_
      rintro e w' ⟨he, h1, h2⟩
      exact ⟨_, he, h1, h2, fun R _ h => h⟩
    · refine (ins_grow B g c vb i L x w ho hB hlt hl (by omega) hc hv).mono ?_
      rintro e w' ⟨⟨G, he, h1⟩, h2⟩
      exact ⟨_, he, h1, ⟨h2.os, h2.tape, h2.output, h2.size, fun k hk _ => h2.block k hk (by simp)⟩, Stays.of (m := w.heap.size) (.inr rfl) (Nat.le_refl _)⟩
end TabC
end Go.Proofs.Ytgehdpohiphcpaa
