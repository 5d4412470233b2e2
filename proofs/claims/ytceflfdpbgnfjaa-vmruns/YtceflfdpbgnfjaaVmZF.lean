/- The reference's Once whole: it goes on, or it doesn't. -/
import Derived.Test.YtceflfdpbgnfjaaVmZE
set_option linter.unusedVariables false
namespace Go.Proofs.Ytceflfdpbgnfjaa
open Go.RowKit
open Go.Shelf Go.Sort
open SpanM hiding good
open SpanC IntsC
open RowsO hiding Em
namespace VmC
open VmP VmM
open NumC (Row)
section
variable (w : World) (pa ia : Option Addr) (q : Addr) (pcap rc ic : Nat) (p : List In) (l i : List Int) (pc : Int) (h f : Bool)
theorem stp_fault (k : Nat) (x : Int) (hk : k = p.length) : stp p ⟨k, l, false, false⟩ x = ⟨⟨k, l, false, true⟩, [], 0, 1⟩ := by
  subst hk
  unfold stp act
  simp
theorem once_yes (hp : Iss w pa p) (hpl : p.length ≤ maxLen) (hr : Row w (some q) l) (hn : ∀ x ∈ l, n32 x = true) (hi : Row w ia i) (hil : i.length ≤ maxLen) (hck : VmP.chk p = 0) (hs : Ok p ⟨pc, l, h, f⟩) (hg : goes p ⟨pc, l, h, f⟩ (decide (0 < i.length)) = true) :
    Calls Try.prog 35 #[.slice pa p.length pcap, .agg (vmC pc (.slice (some q) 8 rc) h f), .slice ia i.length ic] w (OnceR w (stp p ⟨pc, l, h, f⟩ (i.getD 0 0)).s (stp p ⟨pc, l, h, f⟩ (i.getD 0 0)).out (stp p ⟨pc, l, h, f⟩ (i.getD 0 0)).took) := by
  simp only [goes, Bool.and_eq_true, Bool.not_eq_true', Bool.or_eq_false_iff, Bool.or_eq_true, decide_eq_true_eq] at hg
  obtain ⟨⟨hh, hf⟩, hg⟩ := hg
  subst hh
  subst hf
  have h8 : l.length = 8 := hs.len
  have hp1 := (chk_zero hck).1
  obtain ⟨k, rfl⟩ : ∃ k : Nat, pc = k := ⟨pc.toNat, by have := hs.lo; simp only at this; omega⟩
  have hkl : (k : Int) ≤ p.length := hs.hi
  have hk100 : k ≤ 100 := by omega
  by_cases hpc : (k : Int) = p.length
  · rw [stp_fault p l k _ (by omega)]
    exact once_end w pa ia q pcap rc ic p l i k hp hpl hr h8 hn hi hil hk100 (by omega)
  · have hk : k < p.length := by omega
    have hgd := hs.good hck hpc
    have gc := good_cases hgd
    simp only [Int.toNat_natCast] at hgd gc hg
    obtain ⟨⟨c, a, b⟩, hx⟩ : ∃ x, p.getD k zIn = x := ⟨_, rfl⟩
    rw [hx] at gc hg
    simp only at gc hg
    obtain ⟨g1, g2, g3, g4, g5, g6, g7, g8⟩ := gc
    have hat : (((k : Int)).toNat) = k := by omega
    have ht : c = 9 → 0 < i.length := fun h9 => by
      rcases hg with (q | q) | q
      · exact absurd q hpc
      · exact absurd h9 q
      · exact q
    have hact : act p ⟨k, l, false, false⟩ = if c = 11 then .go ⟨k, l, true, false⟩ [] else if jmp ⟨k, l, false, false⟩ (c, a, b) = true then .go ⟨b, l, false, false⟩ [] else if c = 9 then .take fun n => ⟨k + 1, l.set a.toNat n, false, false⟩ else if c = 10 then .go ⟨k + 1, l, false, false⟩ [(b, reg ⟨k, l, false, false⟩ a)] else .go ⟨k + 1, put ⟨k, l, false, false⟩ (c, a, b), false, false⟩ [] := by
      unfold act
      rw [if_neg (by simp), if_neg hpc]
      simp only [hat, hx]
    have ha : ∃ an : Nat, a = an ∧ an < 8 := ⟨a.toNat, by omega⟩
    obtain ⟨an, rfl, han⟩ := ha
    have hrg : ∀ x : Nat, reg ⟨k, l, false, false⟩ (x : Int) = l.getD x 0 := fun x => by simp [reg]
    have hc : c = 1 ∨ c = 2 ∨ c = 3 ∨ c = 4 ∨ c = 5 ∨ c = 6 ∨ c = 7 ∨ c = 8 ∨ c = 9 ∨ c = 10 ∨ c = 11 := by omega
    have hx' : p.getD k zIs = (c, (an : Int), b) := hx
    clear hgd g1 g2 g3 g4 g6 g7 g8 hg
    have hbn : 2 ≤ c → c ≤ 5 → ∃ bn : Nat, b = bn ∧ bn < 8 := fun u v => ⟨b.toNat, by have := g5 u v; omega⟩
    clear g5
    rcases hc with rfl | rfl | rfl | rfl | rfl | rfl | rfl | rfl | rfl | rfl | rfl
    · have he : stp p ⟨k, l, false, false⟩ (i.getD 0 0) = ⟨⟨(k : Int) + 1, l.set an b, false, false⟩, [], 0, 1⟩ := by unfold stp; rw [hact]; simp [jmp, put, val]
      rw [he]
      exact once_1 w pa ia q pcap rc ic p l i k hp hpl hr h8 hn hi hil hk100 an b hk han hx'
    · obtain ⟨bn, rfl, hb⟩ := hbn (by omega) (by omega)
      have he : stp p ⟨k, l, false, false⟩ (i.getD 0 0) = ⟨⟨(k : Int) + 1, l.set an (l.getD bn 0), false, false⟩, [], 0, 1⟩ := by unfold stp; rw [hact]; simp [jmp, put, val, reg]
      rw [he]
      exact once_2 w pa ia q pcap rc ic p l i k hp hpl hr h8 hn hi hil hk100 an bn hk han hx' hb
    · obtain ⟨bn, rfl, hb⟩ := hbn (by omega) (by omega)
      have he : stp p ⟨k, l, false, false⟩ (i.getD 0 0) = ⟨⟨(k : Int) + 1, l.set an (ar (l.getD an 0 + l.getD bn 0)), false, false⟩, [], 0, 1⟩ := by unfold stp; rw [hact]; simp [jmp, put, val, reg]
      rw [he]
      exact once_3 w pa ia q pcap rc ic p l i k hp hpl hr h8 hn hi hil hk100 an bn hk han hx' hb
    · obtain ⟨bn, rfl, hb⟩ := hbn (by omega) (by omega)
      have he : stp p ⟨k, l, false, false⟩ (i.getD 0 0) = ⟨⟨(k : Int) + 1, l.set an (ar (l.getD an 0 - l.getD bn 0)), false, false⟩, [], 0, 1⟩ := by unfold stp; rw [hact]; simp [jmp, put, val, reg]
      rw [he]
      exact once_4 w pa ia q pcap rc ic p l i k hp hpl hr h8 hn hi hil hk100 an bn hk han hx' hb
    · obtain ⟨bn, rfl, hb⟩ := hbn (by omega) (by omega)
      have he : stp p ⟨k, l, false, false⟩ (i.getD 0 0) = ⟨⟨(k : Int) + 1, l.set an (ar (l.getD an 0 * l.getD bn 0)), false, false⟩, [], 0, 1⟩ := by unfold stp; rw [hact]; simp [jmp, put, val, reg]
      rw [he]
      exact once_5 w pa ia q pcap rc ic p l i k hp hpl hr h8 hn hi hil hk100 an bn hk han hx' hb
    · have he : stp p ⟨k, l, false, false⟩ (i.getD 0 0) = ⟨⟨b, l, false, false⟩, [], 0, 1⟩ := by unfold stp; rw [hact]; simp [jmp]
      rw [he]
      exact once_6 w pa ia q pcap rc ic p l i k hp hpl hr h8 hn hi hil hk100 an b hk han hx'
    · by_cases hj : l.getD an 0 = 0
      · have he : stp p ⟨k, l, false, false⟩ (i.getD 0 0) = ⟨⟨b, l, false, false⟩, [], 0, 1⟩ := by unfold stp; rw [hact, if_neg (by omega), if_pos (by simp only [jmp, hrg]; rw [decide_eq_true hj]; rfl)]
        rw [he]
        exact once_7 w pa ia q pcap rc ic p l i k hp hpl hr h8 hn hi hil hk100 an b hk han hx' hj
      · have he : stp p ⟨k, l, false, false⟩ (i.getD 0 0) = ⟨⟨(k : Int) + 1, l, false, false⟩, [], 0, 1⟩ := by unfold stp; rw [hact, if_neg (by omega), if_neg (by simp only [jmp, hrg]; rw [decide_eq_false hj]; simp)]; simp [put]
        rw [he]
        exact once_7n w pa ia q pcap rc ic p l i k hp hpl hr h8 hn hi hil hk100 an b hk han hx' hj
    · by_cases hj : l.getD an 0 < 0
      · have he : stp p ⟨k, l, false, false⟩ (i.getD 0 0) = ⟨⟨b, l, false, false⟩, [], 0, 1⟩ := by unfold stp; rw [hact, if_neg (by omega), if_pos (by simp only [jmp, hrg]; rw [decide_eq_true hj]; rfl)]
        rw [he]
        exact once_8 w pa ia q pcap rc ic p l i k hp hpl hr h8 hn hi hil hk100 an b hk han hx' hj
      · have he : stp p ⟨k, l, false, false⟩ (i.getD 0 0) = ⟨⟨(k : Int) + 1, l, false, false⟩, [], 0, 1⟩ := by unfold stp; rw [hact, if_neg (by omega), if_neg (by simp only [jmp, hrg]; rw [decide_eq_false hj]; simp)]; simp [put]
        rw [he]
        exact once_8n w pa ia q pcap rc ic p l i k hp hpl hr h8 hn hi hil hk100 an b hk han hx' hj
    · have he : stp p ⟨k, l, false, false⟩ (i.getD 0 0) = ⟨⟨(k : Int) + 1, l.set an (i.getD 0 0), false, false⟩, [], 1, 1⟩ := by unfold stp; rw [hact]; simp [jmp]
      rw [he]
      exact once_9 w pa ia q pcap rc ic p l i k hp hpl hr h8 hn hi hil hk100 an b hk han hx' (ht rfl)
    · have he : stp p ⟨k, l, false, false⟩ (i.getD 0 0) = ⟨⟨(k : Int) + 1, l, false, false⟩, [(b, l.getD an 0)], 0, 1⟩ := by unfold stp; rw [hact]; simp [jmp, reg]
      rw [he]
      exact once_10 w pa ia q pcap rc ic p l i k hp hpl hr h8 hn hi hil hk100 an b hk han hx'
    · have he : stp p ⟨k, l, false, false⟩ (i.getD 0 0) = ⟨⟨(k : Int), l, true, false⟩, [], 0, 1⟩ := by unfold stp; rw [hact]; simp
      rw [he]
      exact once_11 w pa ia q pcap rc ic p l i k hp hpl hr h8 hn hi hil hk100 an b hk han hx'
set_option maxRecDepth 20000 in
set_option maxHeartbeats 1600000 in
theorem once_stop (hhf : (h || f) = true) :
    Calls Try.prog 35 #[.slice pa p.length pcap, .agg (vmC pc (.slice (some q) 8 rc) h f), .slice ia i.length ic] w fun e w' => e = .returned (.tuple #[.agg (vmC pc (.slice (some q) 8 rc) h f), .slice none 0 0, .int .i64 0, .bool false]) ∧ Below w.heap.size w w' := by
  have HX := hid (B2.start w (vmC pc (.slice (some q) 8 rc) h f) zV 25 25)
  have hs := B2.size HX.out
  have y0 := HX.out.c0 0
  have y1 := HX.out.c0 1
  have y2 := HX.out.c0 2
  have y3 := HX.out.c0 3
  have e0 : (vmC pc (.slice (some q) 8 rc) h f)[0]? = some (.int .i64 pc) := rfl
  have e1 : (vmC pc (.slice (some q) 8 rc) h f)[1]? = some (.slice (some q) 8 rc) := rfl
  have e2 : (vmC pc (.slice (some q) 8 rc) h f)[2]? = some (.bool h) := rfl
  have e3 : (vmC pc (.slice (some q) 8 rc) h f)[3]? = some (.bool f) := rfl
  rw [e0] at y0
  rw [e1] at y1
  rw [e2] at y2
  rw [e3] at y3
  clear e0 e1 e2 e3
  have r0 := HX.out.c1 0
  have r1 := HX.out.c1 1
  have r2 := HX.out.c1 2
  have r3 := HX.out.c1 3
  have f0 : zV[0]? = some (.int .i64 0) := rfl
  have f1 : zV[1]? = some (.slice none 0 0) := rfl
  have f2 : zV[2]? = some (.bool false) := rfl
  have f3 : zV[3]? = some (.bool false) := rfl
  rw [f0] at r0
  rw [f1] at r1
  rw [f2] at r2
  rw [f3] at r3
  clear f0 f1 f2 f3
  have s0 := froz_box (B2.box1 HX.out) 0
  have s1 := froz_box (B2.box1 HX.out) 1
  have s2 := froz_box (B2.box1 HX.out) 2
  have s3 := froz_box (B2.box1 HX.out) 3
  have HE := hid (st4_heap (x0 := .int .i64 pc) (x1 := .slice (some q) 8 rc) (x2 := .bool h) (x3 := .bool f) (B2.box1 HX.out))
  have HB := hid (st4_below (x0 := .int .i64 pc) (x1 := .slice (some q) 8 rc) (x2 := .bool h) (x3 := .bool f) HX.out.bel (show w.heap.size ≤ w.heap.size + 1 by omega))
  have HL := hid (load_vm HE.out)
  simp only [st4] at HL HB
  cases h
  · simp only [Bool.false_or] at hhf
    subst hhf
    go_enter Try.func35, Try.ntmps35
    go_upto_region 1 with fail
    generalize (w.alloc (.cells (vmC pc (.slice (some q) 8 rc) false true) 25)).alloc (.cells zV 25) = W0 at *
    go_wp2_with fail
    (try simp only [Exit.inBlock, Exit.then])
    refine bodyPost_ret (by simp [results, Try.results35]; rw [as_addr, Result.andThen_ok, HL.out, Result.andThen_ok]) rfl ?_
    exact ⟨rfl, HB.out⟩
  · clear hhf
    go_enter Try.func35, Try.ntmps35
    go_upto_region 1 with fail
    generalize (w.alloc (.cells (vmC pc (.slice (some q) 8 rc) true f) 25)).alloc (.cells zV 25) = W0 at *
    go_wp2_with fail
    (try simp only [Exit.inBlock, Exit.then])
    refine bodyPost_ret (by simp [results, Try.results35]; rw [as_addr, Result.andThen_ok, HL.out, Result.andThen_ok]) rfl ?_
    exact ⟨rfl, HB.out⟩
theorem once_no (hp : Iss w pa p) (hpl : p.length ≤ maxLen) (hr : Row w (some q) l) (hn : ∀ x ∈ l, n32 x = true) (hi : Row w ia i) (hil : i.length ≤ maxLen) (hck : VmP.chk p = 0) (hs : Ok p ⟨pc, l, h, f⟩) (hg : goes p ⟨pc, l, h, f⟩ (decide (0 < i.length)) = false) :
    Calls Try.prog 35 #[.slice pa p.length pcap, .agg (vmC pc (.slice (some q) 8 rc) h f), .slice ia i.length ic] w fun e w' => e = .returned (.tuple #[.agg (vmC pc (.slice (some q) 8 rc) h f), .slice none 0 0, .int .i64 0, .bool false]) ∧ Below w.heap.size w w' := by
  cases hhf : (h || f)
  · simp only [goes, hhf, Bool.not_false, Bool.true_and, Bool.or_eq_false_iff, decide_eq_false_iff_not] at hg
    obtain ⟨⟨hpc, h9⟩, hl0⟩ := hg
    simp only [Bool.or_eq_false_iff] at hhf
    obtain ⟨rfl, rfl⟩ := hhf
    obtain ⟨k, rfl⟩ : ∃ k : Nat, pc = k := ⟨pc.toNat, by have := hs.lo; simp only at this; omega⟩
    have hkl : (k : Int) ≤ p.length := hs.hi
    have hp1 := (chk_zero hck).1
    have gc := good_cases (hs.good hck hpc)
    simp only [Int.toNat_natCast, Classical.not_not] at gc h9
    obtain ⟨⟨c, a, b⟩, hx⟩ : ∃ x, p.getD k zIn = x := ⟨_, rfl⟩
    rw [hx] at gc h9
    simp only at gc h9
    subst h9
    have ha : 0 ≤ a ∧ a ≤ 7 := gc.2.1 (by omega) (by omega)
    obtain ⟨an, rfl⟩ : ∃ an : Nat, a = an := ⟨a.toNat, by omega⟩
    exact once_9n w pa ia q pcap rc ic p l i k hp hpl hr hs.len hn hi hil (by omega) an b (by omega) (by omega) hx (by omega)
  · exact once_stop w pa ia q pcap rc ic p i pc h f hhf
end
end VmC
end Go.Proofs.Ytceflfdpbgnfjaa
