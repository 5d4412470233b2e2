/- Contracts: symMergeCmpFunc of jobs (written by gen_srt.py). -/
import Derived.Test.YtgplaoojimpbaaaSrtD
import Derived.Test.YtgplaoojimpbaaaSrtF
set_option linter.unusedVariables false
namespace Go.Proofs.Ytgplaoojimpbaaa
open Go.RowKit hiding tok
open Go.Shelf Go.Sort
open SpanM SpanC PlayM
namespace PlayC
open RowG
theorem merge_any (g n cap B : Nat) : ∀ N, Fewer g n cap B N := by
  intro N
  induction N with
  | zero => intro a m b l w h; omega
  | succ N ih =>
    intro a m b l w h ho hn ham hmb hb hl hs1 hs2
    by_cases c1 : m = a + 1
    · exact merge_low g n cap B a m b l w ho hn c1 hmb hb hl hs2
    · by_cases c2 : b = m + 1
      · exact merge_high g n cap B a m b l w ho hn (by omega) c2 hb hl hs1
      · have hF : Fewer g n cap B (b - a) := fun a' m' b' l' w' h' => ih a' m' b' l' w' (by omega)
        by_cases c3 : (a + b) / 2 < m
        · exact merge_gt g n cap B a m b _ l w ho hn (by omega) hb hl hs1 hs2 rfl c3 hF
        · exact merge_le g n cap B a m b _ l w ho hn (by omega) hb hl hs1 hs2 rfl (by omega) hF
end PlayC
end Go.Proofs.Ytgplaoojimpbaaa
