/-
  Walks: alike and Same on one list of tokens; the chapter's example.
-/
import Derived.Test.YtjdlhfjmcghdlaaLexPrint
namespace Go.Proofs.Ytjdlhfjmcghdlaa.Lex
open Go Go.RowKit

theorem below_drewN {B : Nat} {w w' : World} (h : Below B w w') (n : Nat) : Below B w (w'.drewN n) := ⟨h.os, h.tape, h.output, h.size, h.block⟩
theorem eqIn_tk (w : World) (d : Nat) (a : Tk) : (Op.equalIn (d + 2) tkT (tkV a) (tkV a)).run Try.prog w = .ok true w := by
  have e : (Op.equalIn (d + 1 + 1) tkT (tkV a) (tkV a)).run Try.prog w = _ := run_equalIn_struct w (d + 1) tkT _ _ (by unfold Program.fieldsOf; rw [Try.underlying43]) (by kernel_rfl)
  rw [e]
  unfold Program.fieldsOf
  rw [Try.underlying43]
  simp [Op.eqFields, go_sem]
theorem eql_tk (w : World) (a : Tk) : (binOp .eql tkT (tkV a) (tkV a)).run Try.prog w = .ok (.bool true) w := by
  simp only [binOp]
  simp [Op.equal, Op.maxDepth, eqIn_tk w 9998 a]
theorem beq_list (a : List UInt8) : (a == a) = true := beq_self_eq_true a
def TruePost (w : World) (e : Ending) (w' : World) : Prop := e = .returned (.bool true) ∧ Below w.heap.size w w'
set_option maxHeartbeats 2000000 in
theorem alike_any (v u : Value) (P : List Tk) (w : World) (hv : ReadsT w v P) (hu : ReadsT w u P) (hl : P.length ≤ 100000) :
    Calls Try.prog 22 #[v, u] w (TruePost w) := by
  obtain ⟨va, vc, rfl⟩ := hv.shape
  obtain ⟨ua, uc, rfl⟩ := hu.shape
  obtain ⟨n, hn⟩ : ∃ n, n = P.length := ⟨_, rfl⟩
  rw [← hn] at hv hu hl ⊢
  have hee : ((n : Int) == n) = true := beq_self_eq_true _
  have HV := Lib.hid (fun k a ha => hv.at_ k a ha)
  have HU := Lib.hid (fun k a ha => hu.at_ k a ha)
  have HNN := Lib.hid hn
  clear hv hu hn
  go_enter Try.func22, Try.ntmps22
  go_wp2_with fail
  go_loopw [5, 6] (fun s i wr => ∃ k : Nat, k ≤ n ∧ i = .int .i64 k ∧ s = .bool true ∧ Below w.heap.size w wr) (fun _ i _ => n - (intOf i).toNat)
  case atStart => exact ⟨0, Nat.zero_le _, rfl, rfl, Below.refl _ _⟩
  case round =>
    obtain ⟨k, hk, rfl, rfl, hb⟩ := hrel
    by_cases hlt : k < n
    · obtain ⟨a, ha⟩ : ∃ a, P[k]? = some a := ⟨P[k]'(by have := HNN.out; omega), List.getElem?_eq_getElem _⟩
      obtain ⟨b1, o1, rfl, hb1, r1⟩ := HV.out k a ha
      obtain ⟨b2, o2, rfl, hb2, r2⟩ := HU.out k a ha
      obtain ⟨c0, c1⟩ := two (range_below r1 hb1 hb)
      obtain ⟨d0, d1⟩ := two (range_below r2 hb2 hb)
      clear ha r1 r2
      go_wp2_with fail
      have hq := fun W => eql_tk W a
      go_region
      go_wp2_with fail
      go_roundw
      case rel => exact ⟨k + 1, by omega, by simp, rfl, hb.drew⟩
      case measure => simp [intOf]; omega
    · go_wp2_with fail
      go_ret
      exact ⟨rfl, hb⟩
set_option maxHeartbeats 2000000 in
theorem same_any (v u : Value) (P : List Tk) (w : World) (hv : ReadsT w v P) (hu : ReadsT w u P) (hl : P.length ≤ 100000) :
    Calls Try.prog 12 #[v, u] w (TruePost w) := by
  obtain ⟨va, vc, rfl⟩ := hv.shape
  obtain ⟨ua, uc, rfl⟩ := hu.shape
  obtain ⟨n, hn⟩ : ∃ n, n = P.length := ⟨_, rfl⟩
  rw [← hn] at hv hu hl ⊢
  have hee : ((n : Int) == n) = true := beq_self_eq_true _
  have HV := Lib.hid (fun k a ha => hv.at_ k a ha)
  have HU := Lib.hid (fun k a ha => hu.at_ k a ha)
  have HNN := Lib.hid hn
  clear hv hu hn
  go_enter Try.func12, Try.ntmps12
  go_wp2_with fail
  go_loopw [5, 6] (fun s i wr => ∃ k : Nat, k ≤ n ∧ i = .int .i64 k ∧ s = .bool true ∧ Below w.heap.size w wr) (fun _ i _ => n - (intOf i).toNat)
  case atStart => exact ⟨0, Nat.zero_le _, rfl, rfl, Below.refl _ _⟩
  case round =>
    obtain ⟨k, hk, rfl, rfl, hb⟩ := hrel
    by_cases hlt : k < n
    · obtain ⟨a, ha⟩ : ∃ a, P[k]? = some a := ⟨P[k]'(by have := HNN.out; omega), List.getElem?_eq_getElem _⟩
      obtain ⟨b1, o1, rfl, hb1, r1⟩ := HV.out k a ha
      obtain ⟨b2, o2, rfl, hb2, r2⟩ := HU.out k a ha
      obtain ⟨c0, c1⟩ := two (range_below r1 hb1 hb)
      obtain ⟨d0, d1⟩ := two (range_below r2 hb2 hb)
      have e1 : (a.kind == a.kind) = true := beq_self_eq_true _
      have e2 : (a.text.toList == a.text.toList) = true := beq_self_eq_true _
      clear ha r1 r2
      go_wp2_with fail
      go_quiet (fail)
      have hb2 := below_drewN hb nq
      have HB2 := Lib.hid hb2
      clear hb2
      go_wp2_with fail
      go_roundw
      case rel => exact ⟨k + 1, by omega, by simp, by first | rfl | simp, HB2.out⟩
      case measure => simp [intOf]; omega
    · go_wp2_with fail
      go_ret
      exact ⟨rfl, hb⟩

/-! The chapter's example. -/
def exT : List Tk := [⟨1, ⟨#[97]⟩⟩, ⟨2, ⟨#[98, 32, 99]⟩⟩, ⟨3, ⟨#[64]⟩⟩, ⟨1, ⟨#[100]⟩⟩]
def exS : ByteArray := ⟨#[97, 32, 40, 120, 41, 32, 34, 98, 32, 99, 34, 64, 100]⟩
def exP : ByteArray := ⟨#[97, 32, 34, 98, 32, 99, 34, 64, 100]⟩
theorem exScan : scan (bl exS) = (0, exT) := by kernel_rfl
theorem exPrint : ba (printL exT) = exP := by kernel_rfl
set_option maxRecDepth 100000 in
set_option maxHeartbeats 4000000 in
theorem works_any (w : World) : Calls Try.prog 9 #[] w (TruePost w) := by
  have HS := Lib.hid (scan_any exS w (by decide))
  go_enter Try.func9, Try.ntmps9
  go_wp2_with fail
  refine HS.out.mono ?_
  rintro e w1 ⟨v, rfl, hr, hb⟩
  rw [exScan] at hr ⊢
  obtain ⟨a, cap, rfl⟩ := hr.shape
  obtain ⟨b, off, rfl, hb0, r0⟩ := hr.at_ 0 ⟨1, ⟨#[97]⟩⟩ rfl
  have r1 : w1.rangeAt b (off + 1 * 2) (tkC ⟨2, ⟨#[98, 32, 99]⟩⟩) := by
    obtain ⟨b', off', he, _, r⟩ := hr.at_ 1 ⟨2, ⟨#[98, 32, 99]⟩⟩ rfl
    obtain ⟨rfl, rfl⟩ : b = b' ∧ off = off' := by simpa using he
    exact r
  have r2 : w1.rangeAt b (off + 2 * 2) (tkC ⟨3, ⟨#[64]⟩⟩) := by
    obtain ⟨b', off', he, _, r⟩ := hr.at_ 2 ⟨3, ⟨#[64]⟩⟩ rfl
    obtain ⟨rfl, rfl⟩ : b = b' ∧ off = off' := by simpa using he
    exact r
  have HP := Lib.hid (print_any _ exT w1 hr (by decide) (by decide))
  rw [exPrint] at HP
  have HB := Lib.hid hb
  have hx : (exP.toList == [97, 32, 34, 98, 32, 99, 34, 64, 100]) = true := by rw [Lib.toList_data]; rfl
  obtain ⟨c0, c1⟩ := two r0
  obtain ⟨c2, c3⟩ := two r1
  obtain ⟨c4, c5⟩ := two r2
  have k0 : w1.cell? ⟨b, off, none⟩ = some (.int .i64 1) := c0
  have k1 : w1.cell? ⟨b, off + 1, none⟩ = some (.string ⟨#[97]⟩) := by rwa [show off + 0 * 2 + 1 = off + 1 by omega] at c1
  have k2 : w1.cell? ⟨b, off + 2, none⟩ = some (.int .i64 2) := c2
  have k3 : w1.cell? ⟨b, off + 2 + 1, none⟩ = some (.string ⟨#[98, 32, 99]⟩) := c3
  have k4 : w1.cell? ⟨b, off + 4, none⟩ = some (.int .i64 3) := c4
  have k5 : w1.cell? ⟨b, off + 4 + 1, none⟩ = some (.string ⟨#[64]⟩) := c5
  have q0 := fun W => eql_tk W ⟨1, ⟨#[97]⟩⟩
  have q1 := fun W => eql_tk W ⟨2, ⟨#[98, 32, 99]⟩⟩
  have q2 := fun W => eql_tk W ⟨3, ⟨#[64]⟩⟩
  clear hr hb r0 r1 r2 c0 c1
  rw [show exT.length = 4 from rfl] at HP ⊢
  go_wp2_with fail
  refine HP.out.mono ?_
  rintro e w2 ⟨rfl, hb2⟩
  have HB2 := Lib.hid (HB.out.trans (hb2.mono HB.out.size))
  clear hb2
  go_wp2_with fail
  go_ret
  exact ⟨rfl, HB2.out⟩
end Go.Proofs.Ytjdlhfjmcghdlaa.Lex
