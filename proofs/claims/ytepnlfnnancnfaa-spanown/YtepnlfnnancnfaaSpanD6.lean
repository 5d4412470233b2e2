/- Either, with what the spare cells hold. -/
import Derived.Test.YtepnlfnnancnfaaSpanD4
set_option linter.unusedVariables false
namespace Go.Proofs.Ytepnlfnnancnfaa
open Go.RowKit
open SpanM
namespace SpanC
set_option maxHeartbeats 2000000 in
theorem either_okK (size : Int) (a1 a2 : Option Addr) (c1 c2 : Nat) (l m : List Sp) (w : World) (h1 : Sps w a1 l) (h2 : Sps w a2 m) (z1 : a1 = none → c1 = 0) (z2 : a2 = none → c2 = 0) (k1 : chk size l = 0) (k2 : chk size m = 0) :
    Calls Try.prog 33 #[.agg #[.int .i64 size, .slice a1 l.length c1], .agg #[.int .i64 size, .slice a2 m.length c2]] w fun e w' => (∃ r, good size (-1) r = true ∧ (∀ t, mem r t = (mem l t || mem m t)) ∧ ToldK size r w.heap.size e w') ∧ Below w.heap.size w w' := by
  have H1 := hid (fun W (h : Below w.heap.size w W) => two_any size size a1 a2 c1 c2 l m W (h1.below h (Nat.le_refl _)) (h2.below h (Nat.le_refl _)))
  rw [chk2_of k1 k2] at H1
  obtain ⟨s1, s2, s3, s4⟩ := chk_zero k1
  obtain ⟨_, _, s5, s6⟩ := chk_zero k2
  have R1 := hid h1
  have R2 := hid h2
  have Z1 := hid z1
  have Z2 := hid z2
  have hx : ∀ x ∈ l ++ m, 0 ≤ x.1 ∧ x.1 ≤ x.2 ∧ x.2 ≤ size := by
    intro x hx
    rcases List.mem_append.1 hx with h | h
    · have := good_each s4 x h; omega
    · have := good_each s6 x h; omega
  have HX := hid hx
  have hl4 : (l ++ m).length ≤ 400 := by simp; omega
  clear h1 h2 z1 z2 k1 k2 s4 s6 hx
  have HCC := hid (fun (W : World) (B : Nat) (hb : Below w.heap.size w W) (q1 : W.cell? ⟨B, 0, none⟩ = some (.slice a1 l.length c1)) (q2 : W.cell? ⟨B, 1, none⟩ = some (.slice a2 m.length c2)) => concat_any B a1 a2 c1 c2 l m W (R1.out.below hb (Nat.le_refl _)) (R2.out.below hb (Nat.le_refl _)) Z1.out Z2.out s3 s5 q1 q2)
  have HJJ := hid (fun (W : World) (a : Option Addr) (c : Nat) (hr : Sps W a (l ++ m)) => join_anyK size a c (l ++ m) W hr hl4 s2 HX.out)
  generalize hq : (l ++ m).length = q at *
  have Hq := hid hq
  clear hq
  go_enter Try.func33, Try.ntmps33
  go_wp2_with fail
  refine (H1.out _ (by go_grown)).mono ?_
  rintro e w1 ⟨rfl, b1⟩
  have BB := hid ((BBox.start w size (.slice a1 l.length c1) size (.slice a2 m.length c2)).call b1)
  clear b1
  obtain ⟨x1, x2, x3, x4, x5, x6⟩ := BB.out.t
  have x7 := BB.out.r.sz
  have x8 : w.heap.size < w1.heap.size := by omega
  have x9 : w.heap.size + 1 < w1.heap.size := by omega
  go_wp2_with fail
  go_region_with (first | (go_at_call 49; refine (HCC.out _ w1.heap.size (by go_grown) (World.cell?_alloc_at _ _ _ _ rfl) (World.cell?_alloc_at _ _ _ _ rfl)).mono ?_; rintro e w2 ⟨⟨v2, rfl, ho2⟩, hb2⟩; have BB2 : Hid (BBox w w2 size (.slice a1 l.length c1) size (.slice a2 m.length c2)) := BB.out.step ((by go_grown : Below (w.heap.size + 3) w1 _).trans (hb2.mono (by simp; omega))); obtain ⟨a3, c3, rfl, hs3, _⟩ := ho2.sps; have HS3 := hid hs3; rw [Hq.out]; clear ho2 hb2 hs3; obtain ⟨y1, y2, y3, y4, y5, y6⟩ := BB2.out.t) | (go_at_call 47; refine (HJJ.out _ _ _ HS3.out).mono ?_; rintro e w3 ⟨⟨v3, r, rfl, ho3, hg3, hm3, hl3⟩, hb3⟩; have BB3 := hid (BB2.out.call hb3); have HO3 := hid ho3; have HG3 := hid hg3; have HM3 := hid hm3; obtain ⟨a4, n4, c4, rfl⟩ := ho3.slice; clear ho3 hg3 hm3 hl3 hb3 y1 y2 y3 y4 y5 y6; obtain ⟨y1, y2, y3, y4, y5, y6⟩ := BB3.out.t) | (go_at_call 46; refine (tell_anyK _ _ size _ _ HO3.out).mono ?_; rintro e w4 ⟨⟨s, u, er, rfl, ⟨ua, un, uc, rfl⟩, htd⟩, hb4⟩; have BB4 := hid (BB3.out.call hb4); have HT := hid htd; clear htd hb4 y1 y2 y3 y4 y5 y6; obtain ⟨y1, y2, y3, y4, y5, y6⟩ := BB4.out.r))
  all_goals
    have z0 := BB4.out.r.s0
    have z1 := BB4.out.r.s1
    go_wp2_with fail
    refine bodyPost_ret (v := .tuple #[.agg #[.int .i64 s, .slice ua un uc], .int .i64 er]) (by simp [results, Try.results33, go_sem, z0, z1]) rfl ⟨⟨r, HG3.out, fun t => (HM3.out t).trans (mem_append l m t), (HT.out.set _ _ (by have := BB2.out.r.sz; simp; omega) (by have := BB2.out.r.sz; simp; omega) _ _ (by have := BB2.out.r.sz; omega))⟩, by go_grown⟩
end SpanC
end Go.Proofs.Ytepnlfnnancnfaa
