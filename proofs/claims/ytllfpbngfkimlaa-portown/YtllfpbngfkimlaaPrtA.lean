/- Ports in memory; package port: within, carrierOf, allows, textsFit. -/
import Derived.Test.YtllfpbngfkimlaaRowG
import Derived.Test.YtllfpbngfkimlaaInts
import Derived.Test.YtllfpbngfkimlaaPrtM
import Derived.Deep.CutRange
set_option linter.unusedVariables false
namespace Go.Proofs.Ytllfpbngfkimlaa
open Go.RowKit
open Go.Shelf Go.Sort
open SpanM SpanC IntsC
namespace PortC
open PrtM
/-- texts, ops and what is told, as cells -/
def ES : RowG.Enc ByteArray where
  enc := fun s => [.string s]
  k := 1
  hk := fun _ => rfl
  h1 := fun x u hu => by
    simp only [List.mem_cons, List.not_mem_nil, or_false] at hu
    subst hu; rfl
def EO : RowG.Enc PrtM.Op where
  enc := fun o => [.int .i64 o.1, .int .i64 o.2.1, .string o.2.2]
  k := 3
  hk := fun _ => rfl
  h1 := fun x u hu => by
    simp only [List.mem_cons, List.not_mem_nil, or_false] at hu
    rcases hu with rfl | rfl | rfl <;> rfl
def EA : RowG.Enc PrtM.An where
  enc := fun o => [.string o.1, .bool o.2.1, .int .i64 o.2.2]
  k := 3
  hk := fun _ => rfl
  h1 := fun x u hu => by
    simp only [List.mem_cons, List.not_mem_nil, or_false] at hu
    rcases hu with rfl | rfl | rfl <;> rfl
theorem infoStr : (Try.prog.info? 9).map (fun i => (i.zero, i.size, i.bytes)) = some (some (.string e0), 1, 16) := by kernel_rfl
theorem infoOp : (Try.prog.info? 48).map (fun i => (i.zero, i.size, i.bytes)) = some (some (.agg #[.int .i64 0, .int .i64 0, .string e0]), 3, 32) := by kernel_rfl
theorem infoAn : (Try.prog.info? 44).map (fun i => (i.zero, i.size, i.bytes)) = some (some (.agg #[.string e0, .bool false, .int .i64 0]), 3, 32) := by kernel_rfl
abbrev OwnS (w : World) (B : Nat) (v : Value) (l : List ByteArray) : Prop := RowG.Own ES 9 w B v l
abbrev OwnA (w : World) (B : Nat) (v : Value) (l : List An) : Prop := RowG.Own EA 44 w B v l
abbrev OwnO (w : World) (B : Nat) (v : Value) (l : List PrtM.Op) : Prop := RowG.Own EO 48 w B v l
abbrev RdS (w : World) (a : Option Addr) (l : List ByteArray) : Prop := RowG.Rd ES w a l
abbrev RdO (w : World) (a : Option Addr) (l : List PrtM.Op) : Prop := RowG.Rd EO w a l
abbrev RdA (w : World) (a : Option Addr) (l : List An) : Prop := RowG.Rd EA w a l
theorem RdS.get {w : World} {a : Option Addr} {l : List ByteArray} (h : RdS w a l) (k : Nat) (hk : k < l.length) : ∃ b off, a = some ⟨b, off, none⟩ ∧ w.cell? ⟨b, off + k, none⟩ = some (.string (l.getD k e0)) := by
  obtain ⟨b, off, e, hc⟩ := RowG.Rd.at h k hk
  refine ⟨b, off, e, ?_⟩
  have h0 := hc 0 (by decide)
  have e1 : off + k * ES.k + 0 = off + k := by show off + k * 1 + 0 = _; omega
  rw [e1] at h0
  rw [h0]
  simp [ES, List.getD, hk]
theorem RdO.get {w : World} {a : Option Addr} {l : List PrtM.Op} (h : RdO w a l) (k : Nat) (hk : k < l.length) : ∃ b off, a = some ⟨b, off, none⟩ ∧ w.cell? ⟨b, off + k * 3, none⟩ = some (.int .i64 (l.getD k zOp).1) ∧ w.cell? ⟨b, off + k * 3 + 1, none⟩ = some (.int .i64 (l.getD k zOp).2.1) ∧ w.cell? ⟨b, off + k * 3 + 2, none⟩ = some (.string (l.getD k zOp).2.2) := by
  obtain ⟨b, off, e, hc⟩ := RowG.Rd.at h k hk
  have h0 := hc 0 (by decide)
  have h1 := hc 1 (by decide)
  have h2 := hc 2 (by decide)
  refine ⟨b, off, e, ?_, ?_, ?_⟩
  · exact h0.trans (by simp [EO, List.getD, hk])
  · exact h1.trans (by simp [EO, List.getD, hk])
  · exact h2.trans (by simp [EO, List.getD, hk])
theorem RdA.get {w : World} {a : Option Addr} {l : List An} (h : RdA w a l) (k : Nat) (hk : k < l.length) : ∃ b off, a = some ⟨b, off, none⟩ ∧ w.cell? ⟨b, off + k * 3, none⟩ = some (.string (l.getD k zAn).1) ∧ w.cell? ⟨b, off + k * 3 + 1, none⟩ = some (.bool (l.getD k zAn).2.1) ∧ w.cell? ⟨b, off + k * 3 + 2, none⟩ = some (.int .i64 (l.getD k zAn).2.2) := by
  obtain ⟨b, off, e, hc⟩ := RowG.Rd.at h k hk
  have h0 := hc 0 (by decide)
  have h1 := hc 1 (by decide)
  have h2 := hc 2 (by decide)
  refine ⟨b, off, e, ?_, ?_, ?_⟩
  · exact h0.trans (by simp [EA, List.getD, hk])
  · exact h1.trans (by simp [EA, List.getD, hk])
  · exact h2.trans (by simp [EA, List.getD, hk])
/-- a port as a value, its texts at v -/
abbrev cP (p : Pt) (v : Value) : Array Value := #[.int .i64 p.kind, .int .i64 p.size, .int .i64 p.room, .int .i64 p.fresh, v, .int .i64 p.tm]
abbrev vP (p : Pt) (v : Value) : Value := .agg (cP p v)
theorem within_yes (x lo hi : Int) (w : World) (h : lo ≤ x ∧ x ≤ hi) :
    Calls Try.prog 42 #[.int .i64 x, .int .i64 lo, .int .i64 hi] w fun e w' => e = .returned (.bool true) ∧ w' = w := by
  obtain ⟨h1, h2⟩ := h
  go_enter Try.func42, Try.ntmps42
  go_wp2
  go_ret
  exact ⟨rfl, rfl⟩
theorem within_no (x lo hi : Int) (w : World) (h : ¬ (lo ≤ x ∧ x ≤ hi)) :
    Calls Try.prog 42 #[.int .i64 x, .int .i64 lo, .int .i64 hi] w fun e w' => e = .returned (.bool false) ∧ w' = w := by
  by_cases h1 : lo ≤ x
  · have h2 : ¬ x ≤ hi := fun k => h ⟨h1, k⟩
    clear h
    go_enter Try.func42, Try.ntmps42
    go_wp2
    go_ret
    exact ⟨rfl, rfl⟩
  · clear h
    go_enter Try.func42, Try.ntmps42
    go_wp2
    go_ret
    exact ⟨rfl, rfl⟩
theorem within_dec (x lo hi : Int) (w : World) :
    Calls Try.prog 42 #[.int .i64 x, .int .i64 lo, .int .i64 hi] w fun e w' => e = .returned (.bool (decide (lo ≤ x ∧ x ≤ hi))) ∧ w' = w := by
  by_cases h : lo ≤ x ∧ x ≤ hi
  · rw [decide_eq_true h]; exact within_yes x lo hi w h
  · rw [decide_eq_false h]; exact within_no x lo hi w h
abbrev vSam : Value := .iface 110 (.agg #[])
abbrev vQue : Value := .iface 111 (.agg #[])
theorem carrier_1 (w : World) : Calls Try.prog 41 #[.int .i64 1] w fun e w' => e = .returned vSam ∧ w' = w := by
  go_enter Try.func41, Try.ntmps41
  go_wp2
  go_ret
  exact ⟨rfl, rfl⟩
theorem carrier_2 (w : World) : Calls Try.prog 41 #[.int .i64 2] w fun e w' => e = .returned vQue ∧ w' = w := by
  go_enter Try.func41, Try.ntmps41
  go_wp2
  go_ret
  exact ⟨rfl, rfl⟩
theorem carrier_no (k : Int) (h1 : ¬ k = 1) (h2 : ¬ k = 2) (w : World) : Calls Try.prog 41 #[.int .i64 k] w fun e w' => e = .returned .nilIface ∧ w' = w := by
  have q1 : (k == 1) = false := by simp [h1]
  have q2 : (k == 2) = false := by simp [h2]
  go_enter Try.func41, Try.ntmps41
  go_wp2
  go_ret
  exact ⟨rfl, rfl⟩
theorem m_all1 (w : World) : Sem.run Try.prog (method 232 110 (.agg #[]) "dutyroster/port.allows") w = .ok (77, .agg #[]) w := by kernel_rfl
theorem m_all2 (w : World) : Sem.run Try.prog (method 232 111 (.agg #[]) "dutyroster/port.allows") w = .ok (82, .agg #[]) w := by kernel_rfl
theorem m_kt1 (w : World) : Sem.run Try.prog (method 232 110 (.agg #[]) "dutyroster/port.keepsTime") w = .ok (78, .agg #[]) w := by kernel_rfl
theorem m_kt2 (w : World) : Sem.run Try.prog (method 232 111 (.agg #[]) "dutyroster/port.keepsTime") w = .ok (83, .agg #[]) w := by kernel_rfl
theorem m_wr1 (w : World) : Sem.run Try.prog (method 232 110 (.agg #[]) "dutyroster/port.write") w = .ok (80, .agg #[]) w := by kernel_rfl
theorem m_wr2 (w : World) : Sem.run Try.prog (method 232 111 (.agg #[]) "dutyroster/port.write") w = .ok (85, .agg #[]) w := by kernel_rfl
theorem m_rd1 (w : World) : Sem.run Try.prog (method 232 110 (.agg #[]) "dutyroster/port.read") w = .ok (79, .agg #[]) w := by kernel_rfl
theorem m_rd2 (w : World) : Sem.run Try.prog (method 232 111 (.agg #[]) "dutyroster/port.read") w = .ok (84, .agg #[]) w := by kernel_rfl
theorem kt1 (w : World) : Calls Try.prog 78 #[.agg #[]] w fun e w' => e = .returned (.bool true) ∧ Below w.heap.size w w' := by
  go_enter Try.func78, Try.ntmps78
  go_wp2
  go_ret
  exact ⟨rfl, by go_grown⟩
theorem kt2 (w : World) : Calls Try.prog 83 #[.agg #[]] w fun e w' => e = .returned (.bool false) ∧ Below w.heap.size w w' := by
  go_enter Try.func83, Try.ntmps83
  go_wp2
  go_ret
  exact ⟨rfl, by go_grown⟩
theorem allow1 (r f : Int) (w : World) : Calls Try.prog 77 #[.agg #[], .int .i64 r, .int .i64 f] w fun e w' => e = .returned (.bool (decide (r = 1 ∧ 0 ≤ f ∧ f ≤ big))) ∧ Below w.heap.size w w' := by
  by_cases h : r = 1
  · subst h
    by_cases h2 : 0 ≤ f ∧ f ≤ big
    · rw [decide_eq_true ⟨rfl, h2⟩]
      go_enter Try.func77, Try.ntmps77
      go_wp2_with (go_at_call 42; refine (within_yes _ _ _ _ (by assumption)).mono ?_; rintro e w' ⟨rfl, rfl⟩)
      go_ret
      exact ⟨rfl, by go_grown⟩
    · rw [decide_eq_false (fun h => h2 h.2)]
      go_enter Try.func77, Try.ntmps77
      go_wp2_with (go_at_call 42; refine (within_no _ _ _ _ (by assumption)).mono ?_; rintro e w' ⟨rfl, rfl⟩)
      go_ret
      exact ⟨rfl, by go_grown⟩
  · rw [decide_eq_false (fun k => h k.1)]
    have q1 : (r == 1) = false := by simp [h]
    go_enter Try.func77, Try.ntmps77
    go_wp2_with fail
    go_ret
    exact ⟨rfl, by go_grown⟩
theorem allow2 (r f : Int) (w : World) : Calls Try.prog 82 #[.agg #[], .int .i64 r, .int .i64 f] w fun e w' => e = .returned (.bool (decide ((1 ≤ r ∧ r ≤ 100) ∧ f = 0))) ∧ Below w.heap.size w w' := by
  by_cases h : 1 ≤ r ∧ r ≤ 100
  · by_cases h2 : f = 0
    · subst h2
      rw [decide_eq_true ⟨h, rfl⟩]
      go_enter Try.func82, Try.ntmps82
      go_wp2_with (go_at_call 42; refine (within_yes _ _ _ _ (by assumption)).mono ?_; rintro e w' ⟨rfl, rfl⟩)
      go_ret
      exact ⟨rfl, by go_grown⟩
    · rw [decide_eq_false (fun h => h2 h.2)]
      have q1 : (f == 0) = false := by simp [h2]
      go_enter Try.func82, Try.ntmps82
      go_wp2_with (go_at_call 42; refine (within_yes _ _ _ _ (by assumption)).mono ?_; rintro e w' ⟨rfl, rfl⟩)
      go_ret
      exact ⟨rfl, by go_grown⟩
  · rw [decide_eq_false (fun k => h k.1)]
    go_enter Try.func82, Try.ntmps82
    go_wp2_with (go_at_call 42; refine (within_no _ _ _ _ (by assumption)).mono ?_; rintro e w' ⟨rfl, rfl⟩)
    go_ret
    exact ⟨rfl, by go_grown⟩
/-- the texts that a port may have -/
def fits (p : Pt) : Bool := decide ((p.texts.length : Int) ≤ p.room ∧ ∀ s ∈ p.texts, (s.size : Int) ≤ p.size)
theorem all_step {l : List ByteArray} {z : Int} {k : Nat} (hk : k < l.length) (h : ∀ s ∈ l.take k, (s.size : Int) ≤ z) (h2 : ((l.getD k e0).size : Int) ≤ z) : ∀ s ∈ l.take (k + 1), (s.size : Int) ≤ z := by
  rw [List.take_succ_eq_append_getElem hk]
  intro s hs
  rcases List.mem_append.1 hs with hs | hs
  · exact h s hs
  · simp at hs
    subst hs
    simpa [List.getD, hk] using h2
theorem get_mem {l : List ByteArray} {k : Nat} (hk : k < l.length) : l.getD k e0 ∈ l := by simp [List.getD, hk]
set_option maxHeartbeats 400000 in
theorem textsFit_any (p : Pt) (a : Option Addr) (c : Nat) (w : World) (hr : RdS w a p.texts) (hl : p.room ≤ 1000) :
    Calls Try.prog 43 #[vP p (.slice a p.texts.length c)] w fun e w' => e = .returned (.bool (fits p)) ∧ Below w.heap.size w w' := by
  obtain ⟨kd, sz, rm, fr, l, tm⟩ := p
  simp only at hr hl ⊢
  have HR := hid hr
  clear hr
  by_cases h : (l.length : Int) ≤ rm
  · have HF : Hid ((∀ s ∈ l, (s.size : Int) ≤ sz) → fits ⟨kd, sz, rm, fr, l, tm⟩ = true) := fun q => decide_eq_true ⟨h, q⟩
    have HG : Hid (∀ k, k < l.length → sz < ((l.getD k e0).size : Int) → fits ⟨kd, sz, rm, fr, l, tm⟩ = false) := fun k hk q => decide_eq_false (fun z => Int.not_lt.2 (z.2 _ (get_mem hk)) q)
    generalize fits ⟨kd, sz, rm, fr, l, tm⟩ = F at *
    have hn : ¬ rm < (l.length : Int) := by omega
    have hln : l.length ≤ 1000 := by omega
    clear h
    go_enter Try.func43, Try.ntmps43
    go_wp2_with fail
    go_loop [14] (fun t => ∃ k : Nat, k ≤ l.length ∧ t = .int .i64 k ∧ Hid (∀ s ∈ l.take k, (s.size : Int) ≤ sz)) (fun t => l.length - (intOf t).toNat)
    case atStart => exact ⟨0, by omega, rfl, fun s hs => by simp at hs⟩
    case round =>
      obtain ⟨k, hk, rfl, HK⟩ := hrel
      by_cases hlt : k < l.length
      · obtain ⟨b, off, rfl, hc⟩ := (RdS.get (RowG.Rd.below HR.out ((Below.refl _ w).alloc (Nat.le_refl _) (.cells (cP ⟨kd, sz, rm, fr, l, tm⟩ (.slice a l.length c)) 36)) (Nat.le_refl _)) k hlt)
        have i1 : (k : Int) < (l.length : Int) := by omega
        have HS := hid (fun h2 => all_step hlt HK.out h2)
        have HG2 := hid (HG.out k hlt)
        generalize l.getD k e0 = s at *
        by_cases hs : (s.size : Int) ≤ sz
        · have hs' : ¬ sz < (s.size : Int) := by omega
          have HS2 := hid (HS.out hs)
          go_wp2_with fail
          go_round
          case rel => exact ⟨k + 1, by omega, by go_num, HS2.out⟩
          case measure => simp [intOf]; omega
        · have hs' : sz < (s.size : Int) := by omega
          have HG3 := hid (HG2.out hs')
          go_wp2_with fail
          go_ret
          exact ⟨by rw [HG3.out]; rfl, by go_grown⟩
      · have HF2 := hid (HF.out (by have := HK.out; rwa [List.take_of_length_le (by omega)] at this))
        go_wp2_with fail
        go_ret
        exact ⟨by rw [HF2.out]; rfl, by go_grown⟩
  · have e : fits ⟨kd, sz, rm, fr, l, tm⟩ = false := decide_eq_false (fun q => h q.1)
    rw [e]
    have hn : rm < (l.length : Int) := by omega
    clear h e
    go_enter Try.func43, Try.ntmps43
    go_wp2_with fail
    go_ret
    exact ⟨rfl, by go_grown⟩
end PortC
end Go.Proofs.Ytllfpbngfkimlaa
