/- Lists of edges in memory; contracts of package dutyref: WindowEdges. -/
import Derived.Test.YtgehdpohiphcpaaSpanW
import Derived.Test.YtgehdpohiphcpaaSpanQ
import Derived.Test.YtgehdpohiphcpaaTabR
import Derived.Lib.OwnBridge
set_option linter.unusedVariables false
namespace Go.Proofs.Ytgehdpohiphcpaa
open Go.RowKit
open SpanM
namespace SpanC
theorem infoInt : (Try.prog.info? 3).map (fun i => (i.zero, i.size, i.bytes)) = some (some (.int .i64 0), 1, 8) := by kernel_rfl
/-- numbers that a call has made -/
def OwnI (w : World) (B : Nat) (v : Value) (zs : List Int) : Prop := w.ownsRow B 3 1 v zs.length (zs.map (Value.int .i64))
theorem OwnI.form {w : World} {B : Nat} {v : Value} {l : List Int} (h : OwnI w B v l) : (v = .slice none 0 0 ∧ l = []) ∨ ∃ g cap, v = .slice (some ⟨g, 0, none⟩) l.length cap ∧ B ≤ g ∧ g < w.heap.size ∧ l.length ≤ cap ∧ cap ≤ maxLen := by
  rcases h.2 with ⟨rfl, h0⟩ | ⟨g, cap, cur, rfl, hb, hg, h1, h2, _⟩
  · exact .inl ⟨rfl, List.length_eq_zero_iff.1 h0⟩
  · exact .inr ⟨g, cap, rfl, hb, (Array.getElem?_eq_some_iff.1 hg).1, h1, h2⟩
theorem OwnI.slice {w : World} {B : Nat} {v : Value} {l : List Int} (h : OwnI w B v l) : ∃ a n c, v = .slice a n c := by
  rcases h.form with ⟨rfl, _⟩ | ⟨g, cap, rfl, _⟩
  · exact ⟨_, _, _, rfl⟩
  · exact ⟨_, _, _, rfl⟩
theorem OwnI.below {w w' : World} {B C : Nat} {v : Value} {l : List Int} (h : OwnI w B v l) (hb : Below C w w') (hC : w.heap.size ≤ C) : OwnI w' B v l :=
  World.ownsRow.kept h (grown_of_below hb hC none) (by cases v.ownBlock <;> simp)
theorem OwnI.cell {w : World} {B g cap n : Nat} {l : List Int} (h : OwnI w B (.slice (some ⟨g, 0, none⟩) n cap) l) (k : Nat) (hk : k < l.length) : w.cell? ⟨g, k, none⟩ = some (.int .i64 (l.getD k 0)) := by
  have hn : n = l.length := by
    rcases h.form with ⟨e, _⟩ | ⟨g', cp, e, _⟩
    · simp at e
    · simp only [Value.slice.injEq] at e; exact e.2.1
  subst hn
  have := World.ownsRow.cellAt h k (by omega)
  rw [this]; simp [hk, List.getD]
theorem OwnI.base {w : World} {B C : Nat} {v : Value} {l : List Int} (h : OwnI w B v l) (hC : C ≤ B) : OwnI w C v l := by
  refine ⟨h.1, ?_⟩
  rcases h.2 with h0 | ⟨g, cap, cur, h1, h2, h3⟩
  · exact .inl h0
  · exact .inr ⟨g, cap, cur, h1, by omega, h3⟩
end SpanC
open SpanC TabM
namespace TabC
/-- windows as spans -/
def spn (l : List Win) : List Sp := l.map fun x => (x.1, x.1 + x.2.1)
theorem spn_append (l r : List Win) : spn (l ++ r) = spn l ++ spn r := by simp [spn]
theorem wown_same {l : List Win} {c u : Int} (hcu : c ≤ u) (h : ∀ y ∈ edges (spn l), y ≤ c ∨ u < y) : wown l u = wown l c := by
  induction l with
  | nil => rfl
  | cons x r ih =>
    have h1 := h x.1 (by simp [spn, edges])
    have h2 := h (x.1 + x.2.1) (by simp [spn, edges])
    have hr := ih fun y hy => h y (by
      simp only [spn, List.map_cons, edges, List.mem_cons]
      right; right; exact hy)
    by_cases hx : inW x c
    · have hx' : inW x u := by unfold inW at *; omega
      rw [wown_pos hx, wown_pos hx']
    · have hx' : ¬ inW x u := by unfold inW at *; omega
      rw [wown_neg hx, wown_neg hx', hr]
set_option maxRecDepth 20000 in
set_option maxHeartbeats 1000000 in
theorem edges_any (size : Int) (a : Option Addr) (cap : Nat) (l : List Win) (w : World) (hr : Wns w a l) (hk : tchk size l = 0) :
    Calls Try.prog 43 #[.agg #[.int .i64 size, .slice a l.length cap]] w fun e w' => (∃ v, e = .returned v ∧ OwnI w' w.heap.size v (edges (spn l))) ∧ Below w.heap.size w w' := by
  obtain ⟨i0, hi, hz0, hz1, hz2⟩ := info_parts infoInt
  have Hi := hid hi
  have Hz0 := hid hz0
  have Hz1 := hid hz1
  have Hz2 := hid hz2
  clear hi hz0 hz1 hz2
  obtain ⟨s1, s2, s3, s4⟩ := tchk_zero hk
  have HG := hid (wgood_each s4)
  have HR := hid hr
  clear hr hk s4
  go_enter Try.func43, Try.ntmps43
  go_wp2_with fail
  go_loopw [3, 9] (fun v3 v9 wr => ∃ k : Nat, k ≤ l.length ∧ v9 = .int .i64 k ∧ OwnI wr (w.heap.size + 1) v3 (edges (spn (l.take k))) ∧ Below (w.heap.size + 1) (w.alloc (.cells #[.int .i64 size, .slice a l.length cap] 24)) wr) (fun _ v9 _ => l.length - (intOf v9).toNat)
  case atStart => exact ⟨0, by omega, rfl, World.ownsRow_nil _ _ _ _, Below.refl _ _⟩
  case round =>
    obtain ⟨k, hk, rfl, ho, hb⟩ := hrel
    have HO := hid ho
    have HB := hid hb
    have hsz := hb.size
    simp only [World.size_alloc] at hsz
    obtain ⟨p3, n3, c3, hv3⟩ := ho.slice
    subst hv3
    by_cases hlt : k < l.length
    · obtain ⟨b, off, rfl, hbw, d1, d2, d3⟩ := HR.out.get hb k hlt
      have hge := HG.out (l.getD k z3) (by simp [List.getD, hlt])
      have hd := take_snoc z3 l k hlt
      generalize l.getD k z3 = z at d1 d2 d3 hd hge
      obtain ⟨f, n, o⟩ := z
      simp only [wfit] at d1 d2 d3 hge
      obtain ⟨g1, g2, g3, g4, g5⟩ := hge
      have HE : Hid (edges (spn (l.take (k + 1))) = edges (spn (l.take k)) ++ [f, f + n]) := by
        show _ = _
        rw [hd, spn_append, edges_append]; simp [edges, spn]
      have HN : Hid ((edges (spn (l.take k))).length ≤ 400) := by
        show _ ≤ _
        rw [edges_length, spn, List.length_map, List.length_take]
        omega
      clear hd ho hb
      generalize edges (spn (l.take k)) = Z at *
      go_wp2_with (at_builtin; refine wpList_append_own _ rfl _ _ 74 rfl (w.heap.size + 1) 3 i0 (.int .i64 0) 1 8 Try.underlying74 Hi.out Hz0.out Hz1.out Hz2.out rfl (by decide) _ Z.length (Z.map (Value.int .i64)) rfl ?qc0 ⟨wr.heap.size + 1, 0, none⟩ 2 2 [.int .i64 f, .int .i64 (f + n)] ?qcx ?qc1 ?qc2 ?qc3 ?qc4 ?qc5 ?qc6 ?_)
      case qc0 => exact World.ownsRow.alloc (World.ownsRow.alloc HO.out _) _
      case qcx => rfl
      case qc1 => simp
      case qc2 =>
        intro i u hi
        match i, hi with
        | 0, hi => simp at hi; subst hi; exact World.cell?_alloc_at _ _ _ _ (by simp)
        | 1, hi => simp at hi; subst hi; exact World.cell?_alloc_at _ _ _ _ (by simp)
        | i + 2, hi => simp at hi
      case qc3 => intro u hu; simp at hu; rcases hu with rfl | rfl <;> rfl
      case qc4 => have := HN.out; unfold maxLen; omega
      case qc5 => have := HN.out; omega
      case qc6 => simp; omega
      intro v' w7 hown hgrow hnil
      have HO7 : Hid (OwnI w7 (w.heap.size + 1) v' (Z ++ [f, f + n])) := by
        show w7.ownsRow _ _ _ _ _ _
        simpa using hown
      have HB7 := hid (HB.out.trans (Below.grown (Below.alloc (Below.alloc (Below.refl _ _) hsz _) (by simp; omega) _) hgrow (by simp; omega) (fun k hk => (World.ownsRow.lt HO.out k hk).1)))
      clear hown hgrow hnil
      go_wp2_with fail
      go_roundw
      case rel => exact ⟨k + 1, by omega, by go_num, by rw [HE.out]; exact HO7.out, HB7.out⟩
      case measure => simp [intOf]; omega
    · have he : l.take k = l := List.take_of_length_le (by omega)
      rw [he] at HO
      clear ho hb
      go_wp2_with fail
      go_ret
      exact ⟨⟨_, rfl, HO.out.base (by omega)⟩, of_alloc HB.out⟩
end TabC
end Go.Proofs.Ytgehdpohiphcpaa
