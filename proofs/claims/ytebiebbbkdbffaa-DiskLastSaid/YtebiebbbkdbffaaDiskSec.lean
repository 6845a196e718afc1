/-
  The bytes of a call.
-/
import Derived.Test.YtebiebbbkdbffaaDiskRefH
namespace Go.Proofs.Ytebiebbbkdbffaa.Disk
open Go Go.RowKit
open Go.Proofs.Ytebiebbbkdbffaa.Sha (Kept wp_region_drawn_tail wp_region_kept_tail quiet_load_row)

/-- A call, as the laws list it. -/
structure Act where
  kind : Int
  at_ : Int
  n : Int
  fill : Nat
  short : Bool
  is : Bool
  kv : Value
  ks : List Bool
abbrev actT : TypeId := 39
abbrev actV (a : Act) : Value := .agg #[.int .i64 a.kind, .int .i64 a.at_, .int .i64 a.n, .int .u8 a.fill, .bool a.short, .bool a.is, a.kv]
theorem sizeAct : (Try.prog.info? 39).map (·.size) = some 7 := by kernel_rfl
theorem byte_of {x : Int} (h0 : 0 ≤ x) (h1 : x < 256) : ∃ b : UInt8, x = (b.toNat : Int) := by
  refine ⟨UInt8.ofNat x.toNat, ?_⟩
  have : (UInt8.ofNat x.toNat).toNat = x.toNat % 256 := by simp
  rw [this]
  omega
theorem lies_byte {w : World} {b i : Nat} {l : List UInt8} (h : Lies w b (bytesC l) u8T) (_hi : i < l.length) {x : Int} (h0 : 0 ≤ x) (h1 : x < 256) : ∃ l' : List UInt8, l'.length = l.length ∧ Lies (w.setCell ⟨b, i, none⟩ (.int .u8 x)) b (bytesC l') u8T := by
  obtain ⟨y, rfl⟩ := byte_of h0 h1
  refine ⟨l.set i y, by simp, ?_⟩
  rw [← bytesC_set]
  exact h.set i _
set_option maxHeartbeats 1000000 in
theorem sector_any (w : World) (a : Act) (ka : Option Addr) (kn kc z : Nat) (hkv : a.kv = .slice ka kn kc) (hz : 16 ≤ z) (hz2 : z ≤ 256) (hf : a.fill < 256) :
    Calls Try.prog 20 #[actV a, .int .i64 z] w fun e w' => ∃ s : ByteArray, e = .returned (.string s) ∧ s.size ≤ 256 ∧ Below w.heap.size w w' := by
  obtain ⟨kind, at_, n, fill, short, is, kv, ks⟩ := a
  obtain rfl : kv = .slice ka kn kc := hkv
  have hfi : fill < 256 := hf
  have hmk := make_bytes z (by omega)
  have HS : Hid (∃ l : List UInt8, l.length = z ∧ Lies ((w.alloc (.cells #[.int .i64 kind, .int .i64 at_, .int .i64 n, .int .u8 fill, .bool short, .bool is, .slice ka kn kc] actT)).alloc (.cells (bytesC (List.replicate z 0)) u8T)) (w.heap.size + 1) (bytesC l) u8T) := ⟨List.replicate z 0, by simp, new_at (by simp)⟩
  have HL0 : Hid (Lies ((w.alloc (.cells #[.int .i64 kind, .int .i64 at_, .int .i64 n, .int .u8 fill, .bool short, .bool is, .slice ka kn kc] actT)).alloc (.cells (bytesC (List.replicate z 0)) u8T)) w.heap.size #[.int .i64 kind, .int .i64 at_, .int .i64 n, .int .u8 fill, .bool short, .bool is, .slice ka kn kc] actT) := (Lies.new w _ _).same (Below.heap_alloc _ _ _ (by simp))
  clear hf
  go_enter Try.func20, Try.ntmps20
  go_wp2_with fail
  go_loopw [11] (fun i wr => ∃ (k : Nat) (l : List UInt8), k ≤ z ∧ i = .int .i64 k ∧ l.length = z ∧ Lies wr (w.heap.size + 1) (bytesC l) u8T ∧ Lies wr w.heap.size #[.int .i64 kind, .int .i64 at_, .int .i64 n, .int .u8 fill, .bool short, .bool is, .slice ka kn kc] actT ∧ Below w.heap.size w wr) (fun i _ => z - (intOf i).toNat)
  case atStart =>
    obtain ⟨l, h1, h2⟩ := HS.out
    exact ⟨0, l, Nat.zero_le _, rfl, h1, h2, HL0.out, boxes _ _⟩
  case round =>
    obtain ⟨k, l, hk, rfl, hl, hL, hB, hW⟩ := hrel
    have HH := Lib.hid (And.intro hl (And.intro hL (And.intro hB hW)))
    have c3 : wr.cell? ⟨w.heap.size, 3, none⟩ = some (.int .u8 fill) := hB.cell 3
    have c4 : wr.cell? ⟨w.heap.size, 4, none⟩ = some (.bool short) := hB.cell 4
    clear hl hL hB hW
    by_cases hlt : k < z
    · have kc' := (HH.out.2.1.cell k).trans (bytesC_get (show k < l.length by rw [HH.out.1]; exact hlt))
      have kf := HH.out.2.1.free k
      have HN : Hid (∀ x : Int, 0 ≤ x → x < 256 → ∃ l' : List UInt8, l'.length = z ∧ Lies (wr.setCell ⟨w.heap.size + 1, k, none⟩ (.int .u8 x)) (w.heap.size + 1) (bytesC l') u8T) := fun x h0 h1 => by
        obtain ⟨l', h2, h3⟩ := lies_byte HH.out.2.1 (show k < l.length by rw [HH.out.1]; exact hlt) h0 h1
        exact ⟨l', h2.trans HH.out.1, h3⟩
      go_wp2_with fail
      go_roundw
      case rel =>
        obtain ⟨l', h2, h3⟩ := HN.out (((fill : Int) + (k : Int) % 3) % 256) (by omega) (by omega)
        exact ⟨k + 1, l', by omega, by simp, h2, h3, HH.out.2.2.1.other _ (by omega), HH.out.2.2.2.setCell (Nat.le_succ _) _⟩
      case measure => simp [intOf]; omega
    · obtain rfl : k = z := by omega
      have hb : ∀ i (hi : i < l.length), wr.cell? ⟨w.heap.size + 1, i, none⟩ = some (.int .u8 (l[i]).toNat) := fun i hi => (HH.out.2.1.cell i).trans (bytesC_get hi)
      have e0 := conv_bytes wr (w.heap.size + 1) 0 k l (fun i hi => by rw [Nat.zero_add]; exact hb i hi)
      have e1 := conv_bytes wr (w.heap.size + 1) 1 (k - 1) (l.drop 1) (fun i hi => by
        have h3 : 1 + i < l.length := by rw [List.length_drop] at hi; omega
        rw [hb (1 + i) h3, List.getElem_drop])
      rw [HH.out.1] at e0
      rw [List.length_drop, HH.out.1] at e1
      have HZ : Hid ((⟨l.toArray⟩ : ByteArray).size ≤ 256 ∧ (⟨(l.drop 1).toArray⟩ : ByteArray).size ≤ 256) := by
        have h1 := HH.out.1
        refine ⟨?_, ?_⟩
        · show l.toArray.size ≤ 256
          simp; omega
        · show (l.drop 1).toArray.size ≤ 256
          simp; omega
      generalize (⟨l.toArray⟩ : ByteArray) = s0 at e0 HZ
      generalize (⟨(l.drop 1).toArray⟩ : ByteArray) = s1 at e1 HZ
      have HW := Lib.hid HH.out.2.2.2
      clear hb HH
      cases short
      · go_wp2_with fail
        go_ret
        exact ⟨s0, rfl, HZ.out.1, HW.out⟩
      · go_wp2_with fail
        go_ret
        exact ⟨s1, rfl, HZ.out.2, HW.out⟩
end Go.Proofs.Ytebiebbbkdbffaa.Disk
