/- Contracts: rankByDue. -/
import Derived.Test.YtgplaoojimpbaaaSrtH
import Derived.Test.YtgplaoojimpbaaaWkM
set_option linter.unusedVariables false
namespace Go.Proofs.Ytgplaoojimpbaaa
open Go.RowKit hiding tok
open Go.Shelf Go.Sort
open SpanM SpanC PlayM
namespace PlayC
open RowG
def byDue (x : Jb) : Jb := { x with r := x.d }
def rkL (l : List Jb) (k : Nat) : List Jb := (l.take k).map byDue ++ l.drop k
theorem rkL_len (l : List Jb) (k : Nat) (h : k ≤ l.length) : (rkL l k).length = l.length := by simp [rkL]; omega
theorem rkL_at (l : List Jb) (k : Nat) (h : k < l.length) : (rkL l k)[k]'(by rw [rkL_len l k (by omega)]; exact h) = l[k] := by
  unfold rkL
  rw [List.getElem_append_right (by simp; omega)]
  simp [Nat.min_eq_left (show k ≤ l.length by omega)]
theorem rkL_succ (l : List Jb) (k : Nat) (h : k < l.length) : rkL l (k + 1) = (rkL l k).set k (byDue l[k]) := by
  unfold rkL
  rw [List.set_append_right _ _ (by simp; omega), List.length_map, List.length_take, Nat.min_eq_left (by omega), Nat.sub_self, List.drop_eq_getElem_cons h, List.take_succ_eq_append_getElem h, List.map_append, List.append_assoc]
  rfl
theorem rkL_all (l : List Jb) : rkL l l.length = l.map byDue := by simp [rkL]
set_option maxRecDepth 20000 in
set_option maxHeartbeats 800000 in
theorem rank_any (v : Value) (B : Nat) (l : List Jb) (w : World) (h : OwnJ w B v l) (hl : l.length ≤ 4000) :
    Calls Try.prog 37 #[v] w fun e w' => e = .returned (.tuple #[]) ∧ OwnJ w' B v (l.map byDue) ∧ w.grownBy w' v.ownBlock := by
  rcases h.form with ⟨rfl, rfl⟩ | ⟨g, cap, rfl, hb, hg, h1, h2⟩
  · have HO := hid h
    clear h hl
    go_enter Try.func37, Try.ntmps37
    go_wp2
    go_rounds 1
    go_end0
    exact ⟨rfl, HO.out, grown_refl _ _⟩
  · have HO := hid h
    obtain ⟨n, hn⟩ : ∃ n, n = l.length := ⟨_, rfl⟩
    rw [← hn] at HO ⊢
    have HN := hid hn
    have hnl : n ≤ 4000 := by omega
    clear h hl h1 h2 hb hg hn
    go_enter Try.func37, Try.ntmps37
    go_wp2_with fail
    go_loopw [5] (fun vk wr => ∃ k : Nat, k ≤ n ∧ vk = .int .i64 k ∧ OwnJ wr B (vS g n cap) (rkL l k) ∧ w.grownBy wr (some g)) (fun vk _ => n - (intOf vk).toNat)
    case atStart => exact ⟨0, by omega, rfl, by have e : rkL l 0 = l := by simp [rkL]
                                                rw [e]; exact HO.out, grown_refl _ _⟩
    case round =>
      obtain ⟨k, hk, rfl, ho, hg⟩ := hrel
      have HO1 := hid ho
      have HG1 := hid hg
      clear ho hg
      by_cases hlt : k < n
      · have hkl : k < l.length := by rw [← HN.out]; exact hlt
        have hkl2 : k < (rkL l k).length := by rw [rkL_len l k (by omega)]; exact hkl
        have c4 := HO1.out.cell k 4 hkl2 (by decide)
        have c6 := HO1.out.cell k 6 hkl2 (by decide)
        have fz := HO1.out.frozen (k * 7 + 6)
        have hse := rkL_succ l k hkl
        have hs := HO1.out.set1 k 6 hkl2 (.int .i64 (l[k].d)) (byDue l[k]) (by rw [rkL_at l k hkl]; rfl) (by decide)
        rw [rkL_at l k hkl] at c4 c6
        rw [← hse] at hs
        have e7 : EJ.k = 7 := rfl
        rw [e7] at c4 c6 hs
        generalize hx : l[k] = x at c4 c6 hs
        have HS := hid hs
        clear hs hse hx
        simp [EJ] at c4 c6
        go_wp2_with fail
        go_roundw
        case rel => exact ⟨k + 1, by omega, by go_num, HS.out.1, HG1.out.trans HS.out.2⟩
        case measure => simp [intOf]; omega
      · obtain rfl : k = n := by omega
        go_wp2_with fail
        go_end0
        refine ⟨rfl, ?_, HG1.out⟩
        have := HO1.out
        rw [HN.out, rkL_all] at this
        rw [HN.out]; exact this
end PlayC
end Go.Proofs.Ytgplaoojimpbaaa
