/- Plain mathematics of turns. -/
import Derived.Test.YtgehdpohiphcpaaTabM
set_option linter.unusedVariables false
namespace Go.Proofs.Ytgehdpohiphcpaa
namespace TabM
open SpanM
theorem wend_ge {frame : Int} : ∀ {e : Int} {l : List Win}, wgood frame e l = true → ∀ y ∈ l, y.1 + y.2.1 ≤ wend e l := by
  intro e l
  induction l generalizing e with
  | nil => intro _ y hy; simp at hy
  | cons x r ih =>
    intro h y hy
    obtain ⟨h1, h2⟩ := wgood_cons.1 h
    unfold wfit at h1
    rcases List.mem_cons.1 hy with rfl | hy
    · exact (wend_bd h2 (by omega)).1
    · exact ih h2 y hy
theorem wown_gap {frame t : Int} {p r : List Win} {x : Win} (h : wgood frame 0 (p ++ x :: r) = true) (h1 : wend 0 p ≤ t) (h2 : t < x.1) : wown (p ++ x :: r) t = -1 := by
  obtain ⟨g1, g2⟩ := wgood_append.1 h
  refine wown_none fun y hy => ?_
  rcases List.mem_append.1 hy with hy | hy
  · have := wend_ge g1 y hy; unfold inW; omega
  · obtain ⟨g3, g4⟩ := wgood_cons.1 g2
    unfold wfit at g3
    rcases List.mem_cons.1 hy with rfl | hy
    · unfold inW; omega
    · have := wgood_each g4 y hy; unfold wfit at this; unfold inW; omega
theorem wown_last {frame t : Int} {l : List Win} (h : wgood frame 0 l = true) (h1 : wend 0 l ≤ t) : wown l t = -1 := by
  refine wown_none fun y hy => ?_
  have := wend_ge h y hy; unfold inW; omega
theorem Rle.each {f : Int → Int} {p : Option Int} {a b : Int} {l : List Win} (h : Rle f p a l b) : ∀ x ∈ l, a ≤ x.1 ∧ 1 ≤ x.2.1 ∧ x.1 + x.2.1 ≤ b ∧ ∀ t, inW x t → f t = x.2.2 := by
  induction l generalizing p a with
  | nil => intro x hx; simp at hx
  | cons y r ih =>
    intro x hx
    obtain ⟨h1, h2, h3, h4, h5⟩ := h
    have hle := h5.le
    rcases List.mem_cons.1 hx with rfl | hx
    · exact ⟨by omega, h2, by omega, h4⟩
    · obtain ⟨k1, k2, k3, k4⟩ := ih h5 x hx
      exact ⟨by omega, k2, k3, k4⟩
/-- one owner alone -/
theorem Rle.one {f : Int → Int} {a b : Int} {x : Win} (h : Rle f none a [x] b) : x.1 = a ∧ a + x.2.1 = b ∧ ∀ t, a ≤ t → t < b → f t = x.2.2 := by
  obtain ⟨h1, h2, h3, h4, h5⟩ := h
  simp only [Rle] at h5
  exact ⟨h1, h5, fun t k1 k2 => h4 t (by unfold inW; omega)⟩
theorem Rle.first {f : Int → Int} {a b o : Int} (h : ∀ t, a ≤ t → t < b → f t = o) (hab : a ≤ b) : Rle f none a (addW [] (a, b - a, o)) b := by
  have h0 : Rle f none a [] a := rfl
  have := h0.add (w := (a, b - a, o)) (fun _ => rfl) (fun t ht => h t (by unfold inW at ht; simp only at ht; omega) (by unfold inW at ht; simp only at ht; omega))
  simp only at this
  rwa [show a + max 0 (b - a) = b by omega] at this
/-- whose time it is, frame by frame -/
def wat (frame : Int) (l : List Win) (t : Int) : Int := wown l (t % frame)
/-- behind a stretch of a frame that begins at base, of the turns from a on up to b -/
theorem Rle.cutAdd {f g : Int → Int} {a b c base : Int} {acc : List Win} {x : Win} (h : Rle g none a acc c) (hab : a ≤ b) (hc : c = max a (min b (base + x.1))) (hx : 1 ≤ x.2.1) (hx2 : ∀ t, inW x t → f t = x.2.2) (hg : ∀ t, inW (base + x.1, x.2) t → g t = f (t - base)) :
    Rle g none a (addW acc (max (x.1 + base) a, min (x.1 + base + x.2.1) b - max (x.1 + base) a, x.2.2)) (max a (min b (base + (x.1 + x.2.1)))) := by
  have key := h.add (w := (max (x.1 + base) a, min (x.1 + base + x.2.1) b - max (x.1 + base) a, x.2.2)) (fun h0 => by simp only at h0 ⊢; omega) (fun t ht => by
    unfold inW at ht
    simp only at ht ⊢
    rw [hg t (by unfold inW; simp only; omega)]
    exact hx2 _ (by unfold inW; omega))
  simp only at key
  rwa [show c + max 0 (min (x.1 + base + x.2.1) b - max (x.1 + base) a) = max a (min b (base + (x.1 + x.2.1))) by omega] at key
end TabM
end Go.Proofs.Ytgehdpohiphcpaa
