/-
  The document's padding.
-/
import Derived.Test.YtnndifkilcommaaDoorShaOwn
import Derived.IntWalk
namespace Go.Proofs.YtnndifkilcommaaDoor.Sha
open Go Go.RowKit

def lenV : Value → Nat | .slice _ n _ => n | _ => 0
/-- The zeros come in. -/
def ZeroAt (l : List UInt8) (z : Nat) (w : World) (v : Value) (wr : World) : Prop := ∃ j : Nat, j ≤ z ∧ OwnB wr w.heap.size v (l ++ 128 :: List.replicate j 0) ∧ Below w.heap.size w wr
/-- The length's bytes come in. -/
def SizeAt (l : List UInt8) (z n : Nat) (w : World) (v i : Value) (wr : World) : Prop := ∃ k : Nat, k ≤ 8 ∧ i = .int .i64 k ∧ OwnB wr w.heap.size v (l ++ 128 :: (List.replicate z 0 ++ (lenBytes n).take k)) ∧ Below w.heap.size w wr
theorem own_len {w : World} {B : Nat} {v : Value} {xs : List UInt8} (h : OwnB w B v xs) : ∃ g cap, v = .slice (some ⟨g, 0, none⟩) xs.length cap := by
  obtain ⟨g, cap, _, _, rfl, _⟩ := h
  exact ⟨g, cap, rfl⟩

theorem zero_len (l : List UInt8) (j : Nat) : (l ++ 128 :: List.replicate j 0).length = l.length + 1 + j := by simp; omega
theorem zero_next (l : List UInt8) (j : Nat) : l ++ 128 :: List.replicate j 0 ++ [0] = l ++ 128 :: List.replicate (j + 1) 0 := by
  rw [List.append_assoc, List.cons_append, List.replicate_succ']
theorem new_byte (w : World) (x : Int) : (w.alloc (.cells #[.int .u8 x] 5)).cell? ⟨w.heap.size, 0, none⟩ = some (.int .u8 x) := by
  rw [(Holds.new w #[.int .u8 x] 5).cell 0]; rfl
theorem size_next (l : List UInt8) (z n k : Nat) (hk : k < 8) : l ++ 128 :: (List.replicate z 0 ++ (lenBytes n).take k) ++ [byt (n / 256 ^ (7 - k) % 256)] = l ++ 128 :: (List.replicate z 0 ++ (lenBytes n).take (k + 1)) := by
  have e : (lenBytes n).take (k + 1) = (lenBytes n).take k ++ [byt (n / 256 ^ (7 - k) % 256)] := by
    have hb : ∀ x, byt (x % 256) = byt x := fun x => by
      unfold byt
      apply UInt8.toNat.inj
      simp
    rw [hb]
    match k, hk with
    | 0, _ => rfl
    | 1, _ => rfl
    | 2, _ => rfl
    | 3, _ => rfl
    | 4, _ => rfl
    | 5, _ => rfl
    | 6, _ => rfl
    | 7, _ => show _ = _ ++ [byt (n / 1)]; rw [Nat.div_one]; rfl
  rw [e]
  simp
theorem size_len (l : List UInt8) (z n k : Nat) (hk : k ≤ 8) : (l ++ 128 :: (List.replicate z 0 ++ (lenBytes n).take k)).length = l.length + 1 + z + k := by
  have : (lenBytes n).length = 8 := rfl
  simp [this]; omega
theorem byt_toNat (x : Nat) (h : x < 256) : (byt x).toNat = x := by
  unfold byt
  simp
  omega
def PartAt (N k : Nat) (p j : Value) : Prop := ∃ i : Nat, i ≤ 7 - k ∧ p = .int .u64 ((N / 256 ^ i : Nat) : Int) ∧ j = .int .i64 (7 - (i : Int))
theorem size_start (l : List UInt8) (z n : Nat) : l ++ 128 :: (List.replicate z 0 ++ (lenBytes n).take 0) = l ++ 128 :: List.replicate z 0 := by simp
theorem size_done (l : List UInt8) (z : Nat) (h : (119 - l.length % 64) % 64 = z) : l ++ 128 :: (List.replicate z 0 ++ (lenBytes (l.length * 8)).take 8) = padded l := by
  unfold padded padOf
  rw [h, Nat.mul_comm l.length 8]
  rfl
set_option maxRecDepth 100000 in
set_option maxHeartbeats 1000000 in
theorem refPadded_any (s : ByteArray) (w : World) (hs : s.size ≤ 1000000) : Calls Tryd.prog 19 #[.string s] w fun e w' => e = .returned (.string (ba (padded (bl s)))) ∧ Below w.heap.size w w' := by
  have hlen : (bl s).length = s.size := by show s.data.toList.length = _; rw [← Lib.size_eq]
  obtain ⟨v1, W1, hcv, hO1, hB1⟩ := bytes_start s w (by omega)
  have hO2 := hO1.alloc (.cells #[.int .u8 128] 5)
  have hB2 := hB1.alloc hB1.size (.cells #[.int .u8 128] 5)
  have HX := Lib.hid (And.intro hO2 hB2)
  have c1 : (W1.alloc (.cells #[.int .u8 128] 5)).cell? ⟨W1.heap.size, 0, none⟩ = some (.int .u8 ((128 : UInt8).toNat : Int)) := by
    rw [(Holds.new W1 #[.int .u8 128] 5).cell 0]; rfl
  have HC := Lib.hid c1
  clear hO1 hB1 hO2 hB2 c1
  obtain ⟨n, hn⟩ : ∃ n, s.size = n := ⟨_, rfl⟩
  go_enter Tryd.func19, Tryd.ntmps19
  go_wp2_with (refine wpList_append_byte rfl (.tmp 10) (.tmp 11) rfl w.heap.size v1 (bl s) rfl HX.out.1 ⟨W1.heap.size, 0, none⟩ 1 128 rfl HC.out (by rw [hlen]; omega) HX.out.2.size ?_; intro v2 W2 hO3 hB3)
  rw [hn] at hlen hs
  have HI : Hid (ZeroAt (bl s) ((119 - n % 64) % 64) w v2 W2) := ⟨0, by omega, hO3, HX.out.2.trans (hB3.mono (Nat.le_refl _))⟩
  clear hO3 hB3 hcv HC
  generalize hl : bl s = l at hlen HI
  have HL := Lib.hid hl
  clear hl
  obtain ⟨z, hz⟩ : ∃ z, (119 - n % 64) % 64 = z := ⟨_, rfl⟩
  have hz2 : z ≤ 63 := by omega
  have HZ := Lib.hid (fun j : Nat => (show j ≤ z → ((n + 1 + j) % 64 = 56 ↔ j = z) by omega))
  rw [hz] at HI
  have HZ0 := Lib.hid hz
  clear hz
  go_loopw [3] (fun v wr => ZeroAt l z w v wr) (fun v _ => n + 1 + z - lenV v)
  case atStart => exact HI.out
  case round =>
    clear HI
    obtain ⟨j, hj, hO, hB⟩ := hrel
    obtain ⟨g, cap, rfl⟩ := own_len hO
    have hxl := zero_len l j
    rw [hlen] at hxl
    have HN := Lib.hid (fun (v' : Value) (W' : World) (hlt : j < z) (ho : OwnB W' w.heap.size v' (l ++ 128 :: List.replicate j 0 ++ [0])) (hb : Below w.heap.size w W') => (show ZeroAt l z w v' W' from ⟨j + 1, hlt, by rw [← zero_next]; exact ho, hb⟩))
    have hO2 := Lib.hid (hO.alloc (.cells #[.int .u8 0] 5))
    have hB2 := Lib.hid (hB.alloc hB.size (.cells #[.int .u8 0] 5))
    have HC := Lib.hid (new_byte wr 0)
    have HO := Lib.hid (And.intro hO hB)
    clear hO hB
    have HS : Hid (∃ xs, l ++ 128 :: List.replicate j 0 = xs) := ⟨_, rfl⟩
    obtain ⟨xs, hxs⟩ := HS.out
    rw [hxs] at hxl HN hO2 HO ⊢
    have HXS := Lib.hid hxs
    clear hxs
    obtain ⟨L, hL⟩ : ∃ L, n + 1 + j = L := ⟨_, rfl⟩
    rw [hL] at hxl
    have hL2 : L ≤ 1000100 := by omega
    rw [hxl]
    by_cases hjz : j < z
    · have hm : ((L : Int) % 64 != 56) = true := by
        have h1 : ¬ (n + 1 + j) % 64 = 56 := fun h => by have := (HZ.out j hj).1 h; omega
        rw [bne_iff_ne]
        omega
      have HM := Lib.hid hL
      clear hL
      go_wp2_with (refine wpList_append_byte rfl (.tmp 17) (.tmp 18) rfl w.heap.size (.slice (some ⟨g, 0, none⟩) L cap) xs rfl (by have := hO2.out; rwa [hxl] at this) ⟨wr.heap.size, 0, none⟩ 1 0 rfl HC.out (by omega) hB2.out.size ?_; intro v3 W3 hO3 hB3)
      go_roundw
      case rel => exact HN.out v3 W3 hjz hO3 (hB2.out.trans hB3)
      case measure =>
        obtain ⟨g3, cap3, rfl⟩ := own_len hO3
        have := HM.out
        simp [lenV, hxl]
        omega
    · obtain rfl : j = z := by omega
      have hm : ((L : Int) % 64 != 56) = false := by
        have h1 : (n + 1 + j) % 64 = 56 := (HZ.out j hj).2 rfl
        rw [← hL]
        simp
        omega
      have HI : Hid (SizeAt l j (n * 8) w (.slice (some ⟨g, 0, none⟩) L cap) (.int .i64 0) wr) := by
        refine ⟨0, by omega, rfl, ?_, HO.out.2⟩
        rw [size_start, HXS.out, ← hxl]
        exact HO.out.1
      clear HN HXS hO2 HC hB2 HO hxl HZ
      go_wp2
      go_loopw [3, 5, 6, 7] (fun v i _ _ wr => SizeAt l j (n * 8) w v i wr) (fun _ i _ _ _ => 8 - (intOf i).toNat)
      case atStart => exact HI.out
      case round =>
        clear HI
        obtain ⟨k, hk, rfl, hO, hB⟩ := hrel
        obtain ⟨g, cap, rfl⟩ := own_len hO
        have hxl := size_len l j (n * 8) k hk
        rw [hlen] at hxl
        by_cases hk8 : k < 8
        · have HN := Lib.hid (fun (v' : Value) (W' : World) (ho : OwnB W' w.heap.size v' (l ++ 128 :: (List.replicate j 0 ++ (lenBytes (n * 8)).take k) ++ [byt (n * 8 / 256 ^ (7 - k) % 256)])) (hb : Below w.heap.size w W') => (show SizeAt l j (n * 8) w v' (.int .i64 ((k : Int) + 1)) W' from ⟨k + 1, hk8, rfl, by rw [← size_next _ _ _ _ hk8]; exact ho, hb⟩))
          have HO := Lib.hid (And.intro hO hB)
          clear hO hB
          generalize l ++ 128 :: (List.replicate j 0 ++ (lenBytes (n * 8)).take k) = xs at hxl HN HO ⊢
          have hx2 : xs.length ≤ 1000100 := by omega
          obtain ⟨M, hM⟩ : ∃ M, xs.length = M := ⟨_, rfl⟩
          rw [hM] at HO hx2 ⊢
          have HM := Lib.hid hM
          clear hM hxl
          obtain ⟨N, hN⟩ : ∃ N, n * 8 = N := ⟨_, rfl⟩
          have hNi : (n : Int) * 8 = (N : Int) := by omega
          have hN2 : N ≤ 8000000 := by omega
          rw [hN] at HN
          have HNN := Lib.hid hN
          clear hN
          go_wp2
          go_loopw [6, 7] (fun p i w' => w' = wr ∧ PartAt N k p i) (fun _ i _ => (intOf i).toNat)
          case atStart => exact ⟨rfl, 0, by omega, by rw [Nat.pow_zero, Nat.div_one, ← hNi], rfl⟩
          case round =>
            obtain ⟨rfl, i, hi, rfl, rfl⟩ := hrel
            obtain ⟨P, hP⟩ : ∃ P, N / 256 ^ i = P := ⟨_, rfl⟩
            have hP2 : P ≤ 8000000 := by rw [← hP]; exact Nat.le_trans (Nat.div_le_self _ _) hN2
            have HP : Hid (N / 256 ^ (i + 1) = P / 256) := by
              show _ = _
              rw [Nat.pow_succ, ← Nat.div_div_eq_div_mul, hP]
            rw [hP]
            obtain ⟨q, hq⟩ : ∃ q, 7 - i = q := ⟨_, rfl⟩
            have hqi : (7 : Int) - (i : Int) = (q : Int) := by omega
            rw [hqi]
            by_cases hik : i < 7 - k
            · have hkq : (k : Int) < (q : Int) := by omega
              have HQ := Lib.hid (show (q : Int) - 1 = 7 - ((i + 1 : Nat) : Int) by omega)
              clear hqi hP
              go_wp2
              go_roundw
              case rel => exact ⟨trivial, i + 1, by omega, by rw [HP.out]; rfl, by rw [HQ.out]⟩
              case measure => simp [intOf]; omega
            · have hkq : ¬ (k : Int) < (q : Int) := by omega
              obtain rfl : i = 7 - k := by omega
              rw [hP] at HN
              have hC := new_byte wr ((P : Int) % 256)
              have hb : (P : Int) % 256 = ((byt (P % 256)).toNat : Int) := by rw [byt_toNat _ (Nat.mod_lt _ (by decide))]; omega
              rw [hb] at hC
              have HC := Lib.hid hC
              have HB := Lib.hid hb
              have hO2 := Lib.hid (HO.out.1.alloc (.cells #[.int .u8 ((P : Int) % 256)] 5))
              have hB2 := Lib.hid (HO.out.2.alloc HO.out.2.size (.cells #[.int .u8 ((P : Int) % 256)] 5))
              clear hC hb hP hqi
              go_wp2_with (refine wpList_append_byte rfl (.tmp 36) (.tmp 40) rfl w.heap.size (.slice (some ⟨g, 0, none⟩) M cap) xs rfl hO2.out ⟨wr.heap.size, 0, none⟩ 1 (byt (P % 256)) rfl (by rw [HB.out]; exact HC.out) (by rw [HM.out]; omega) hB2.out.size ?_; intro v3 W3 hO3 hB3)
              go_roundw
              case rel => exact (by rw [HNN.out]; exact HN.out v3 W3 hO3 (hB2.out.trans hB3))
              case measure => simp [intOf]; omega
        · obtain rfl : k = 8 := by omega
          have hd := size_done l j (by rw [hlen]; exact HZ0.out)
          rw [hlen] at hd
          rw [hd] at hO ⊢
          have hc := bytes_end hO
          have HB := Lib.hid hB
          clear hO hB hd
          generalize (padded l).length = M at hc ⊢
          go_wp2
          go_ret
          exact ⟨by rw [HL.out]; rfl, HB.out⟩
end Go.Proofs.YtnndifkilcommaaDoor.Sha
