/-
  The law ShaParts, walked.
-/
import Derived.Test.YtkoidcepamgidaaDoorBase
import Derived.Test.YtkoidcepamgidaaDoorLight
namespace Go.Proofs.YtkoidcepamgidaaDoor
open Go.RowKit

theorem bl_append (a s : ByteArray) : bl (a ++ s) = bl a ++ bl s := by
  show (a ++ s).data.toList = _
  rw [ByteArray.data_append]
  simp
theorem bl_len (s : ByteArray) : (bl s).length = s.size := by show s.data.toList.length = _; rw [← Lib.size_eq]
def PartsAt (n H : Nat) (w : World) (all i : Value) (wr : World) : Prop :=
  ∃ (k : Nat) (a : ByteArray), k ≤ n ∧ i = .int .i64 k ∧ all = .string a ∧ a.size ≤ 200 * k ∧ HashAt wr H (bl a) ∧ Below w.heap.size w wr
theorem parts_next {n H k : Nat} {w W : World} {a s : ByteArray} (hk : k < n) (ha : a.size ≤ 200 * k) (hs : s.size ≤ 200) (hh : HashAt W H (bl (a ++ s))) (hb : Below w.heap.size w W) : PartsAt n H w (.string (a ++ s)) (.int .i64 ((k : Int) + 1)) W := by
  refine ⟨k + 1, a ++ s, hk, rfl, rfl, ?_, hh, hb⟩
  rw [ByteArray.size_append]; omega

set_option maxRecDepth 100000 in
set_option maxHeartbeats 1000000 in
theorem parts_some (b off cap : Nat) (ss : List ByteArray) (w : World) (hl : ss.length ≤ 9223372036854775807) (hc : ∀ i, i < ss.length → w.cell? ⟨b, off + i, none⟩ = some (.string (ss.getD i ByteArray.empty)))
    (hs : ∀ i, i < ss.length → (ss.getD i ByteArray.empty).size ≤ 9223372036854775807) (hbl : b < w.heap.size) (ht : Tab w) :
    Calls Tryd.prog 5 #[.slice (some ⟨b, off, none⟩) ss.length cap] w fun e w' => e = .returned (.bool true) ∧ Below w.heap.size w w' := by
  have HC := Lib.hid hc
  have HS := Lib.hid hs
  have HT := Lib.hid ht
  have hw := ht.1
  clear hc hs ht
  go_enter Tryd.func5, Tryd.ntmps5
  go_wp2_with fail
  refine (works_any _ HT.out).mono ?_
  rintro e W1 ⟨rfl, hb1⟩
  have HX := Lib.hid (And.intro hb1 (HT.out.next hb1))
  have hz1 := hb1.size
  have hC1 : Hid (∀ i, i < ss.length → W1.cell? ⟨b, off + i, none⟩ = some (.string (ss.getD i ByteArray.empty))) := by
    intro i hi
    rw [hb1.cell (p := ⟨b, off + i, none⟩) hbl]
    exact HC.out i hi
  clear hb1
  go_wp2_with fail
  refine (light_some b off cap ss W1 hl hC1.out HS.out).mono ?_
  rintro e W1' ⟨r, rfl, rfl, hr⟩
  cases r
  · clear hr
    go_wp2
    go_ret
    exact ⟨rfl, HX.out.1⟩
  · obtain ⟨hr1, hr2⟩ := hr rfl
    have HR := Lib.hid hr2
    clear hr hr2
    go_wp2_with fail
    refine (new_any _).mono ?_
    rintro e W2 ⟨H, hH, rfl, hA2, hB2⟩
    have hHw : w.heap.size ≤ H := by omega
    have HI : Hid (PartsAt ss.length H w (.string ⟨#[]⟩) (.int .i64 0) W2) := ⟨0, ⟨#[]⟩, by omega, rfl, rfl, by decide, hA2, HX.out.1.trans (hB2.mono hz1)⟩
    clear hA2 hB2 hC1 HX
    go_wp2
    go_loopw [4, 5, 16] (fun all _ i wr => PartsAt ss.length H w all i wr) (fun _ _ i _ => ss.length - (intOf i).toNat)
    case atStart => exact HI.out
    case round =>
      clear HI
      obtain ⟨k, a, hk, rfl, rfl, ha, hA, hB⟩ := hrel
      have hla := bl_len a
      by_cases hkl : k < ss.length
      · have hs1 := HR.out k hkl
        have c0 := HC.out k hkl
        have HN := Lib.hid (fun (W : World) (s : ByteArray) (hs : s.size ≤ 200) => @parts_next ss.length H k w W a s hkl ha hs)
        generalize ss.getD k ByteArray.empty = s at hs1 c0
        have cr : wr.cell? ⟨b, off + k, none⟩ = some (.string s) := by rw [hB.cell (p := ⟨b, off + k, none⟩) hbl]; exact c0
        have hW := fun h1 h2 => write_any s H (bl a) wr hA h1 h2 (by omega)
        have HB := Lib.hid (And.intro hB (HT.out.next hB))
        have hHr := hA.lt
        have hbs := hB.size
        clear hA hB
        go_wp2_with fail
        refine (hW (by omega) HB.out.2).mono ?_
        rintro e W3 ⟨rfl, hA3, hG3⟩
        rw [← bl_append] at hA3
        have hB3 := HB.out.1.trans (grown_below hG3 hHw hbs)
        have cr3 : W3.cell? ⟨b, off + k, none⟩ = some (.string s) := by rw [hB3.cell (p := ⟨b, off + k, none⟩) hbl]; exact c0
        have hT3 := HT.out.next hB3
        have has : (a ++ s).size ≤ 10000 := by rw [ByteArray.size_append]; omega
        have hS := fun W hT => sum_any (a ++ s) W hT (by omega)
        have hQ := fun W hh hT => hashSum_any W H (bl (a ++ s)) hh (by omega) hT (by rw [bl_len]; omega)
        generalize ba (digest (bl (a ++ s))) = D at hS hQ
        have HH := Lib.hid (And.intro hA3 (And.intro hB3 hT3))
        have hlt3 := hA3.lt
        clear hA3 hB3 hT3 hG3 hW cr c0
        by_cases h3 : (k : Int) % 3 = 1
        · have d3 : ((k : Int) % 3 == 1) = true := by simp [h3]
          go_wp2_with fail
          refine (hQ _ HH.out.1 HH.out.2.2).mono ?_
          rintro e W4 ⟨rfl, hb4⟩
          have HJ := Lib.hid (And.intro (HH.out.1.below hb4 hlt3) (And.intro (HH.out.2.1.trans (hb4.mono HH.out.2.1.size)) (HH.out.2.2.next hb4)))
          have hz4 := hb4.size
          clear hb4
          go_wp2_with fail
          refine (hS _ HJ.out.2.2).mono ?_
          rintro e W5 ⟨rfl, hb5⟩
          have HK := Lib.hid (And.intro (HJ.out.1.below hb5 (by omega)) (HJ.out.2.1.trans (hb5.mono HJ.out.2.1.size)))
          clear hb5
          go_wp2
          go_roundw
          case rel => exact HN.out W5 s hs1 HK.out.1 HK.out.2
          case measure => simp [intOf]; omega
        · have d3 : ((k : Int) % 3 == 1) = false := by simp [h3]
          go_wp2
          go_roundw
          case rel => exact HN.out W3 s hs1 HH.out.1 HH.out.2.1
          case measure => simp [intOf]; omega
      · have hS := fun W hT => sum_any a W hT (by omega)
        have hQ := fun W hh hT => hashSum_any W H (bl a) hh (by omega) hT (by omega)
        have hL := fun W hh => len_any W H (bl a) hh (by omega)
        rw [hla] at hL
        generalize ba (digest (bl a)) = D at hS hQ
        have HH := Lib.hid (And.intro hA (And.intro hB (HT.out.next hB)))
        have hlt3 := hA.lt
        clear hA hB
        go_wp2_with fail
        refine (hQ _ HH.out.1 HH.out.2.2).mono ?_
        rintro e W4 ⟨rfl, hb4⟩
        have HJ := Lib.hid (And.intro (HH.out.1.below hb4 hlt3) (And.intro (HH.out.2.1.trans (hb4.mono HH.out.2.1.size)) (HH.out.2.2.next hb4)))
        have hz4 := hb4.size
        clear hb4
        go_wp2_with fail
        refine (hS _ HJ.out.2.2).mono ?_
        rintro e W5 ⟨rfl, hb5⟩
        have HK := Lib.hid (And.intro (HJ.out.1.below hb5 (by omega)) (HJ.out.2.1.trans (hb5.mono HJ.out.2.1.size)))
        clear hb5
        go_wp2_with fail
        refine (hL _ HK.out.1).mono ?_
        rintro e W6 ⟨rfl, rfl⟩
        go_wp2
        go_ret
        exact ⟨rfl, HK.out.2⟩

set_option maxRecDepth 100000 in
set_option maxHeartbeats 1000000 in
theorem parts_none (q : Option Addr) (cap : Nat) (w : World) (ht : Tab w) : Calls Tryd.prog 5 #[.slice q 0 cap] w fun e w' => e = .returned (.bool true) ∧ Below w.heap.size w w' := by
  have HT := Lib.hid ht
  have hw := ht.1
  clear ht
  go_enter Tryd.func5, Tryd.ntmps5
  go_wp2_with fail
  refine (works_any _ HT.out).mono ?_
  rintro e W1 ⟨rfl, hb1⟩
  have HX := Lib.hid (And.intro hb1 (HT.out.next hb1))
  have hz1 := hb1.size
  clear hb1
  go_wp2_with fail
  refine (light_none q cap W1).mono ?_
  rintro e W1' ⟨rfl, rfl⟩
  go_wp2_with fail
  refine (new_any _).mono ?_
  rintro e W2 ⟨H, hH, rfl, hA2, hB2⟩
  have hHw : w.heap.size ≤ H := by omega
  have HI : Hid (PartsAt 0 H w (.string ⟨#[]⟩) (.int .i64 0) W2) := ⟨0, ⟨#[]⟩, by omega, rfl, rfl, by decide, hA2, HX.out.1.trans (hB2.mono hz1)⟩
  clear hA2 hB2 HX
  go_wp2
  go_loopw [4, 5, 16] (fun all _ i wr => PartsAt 0 H w all i wr) (fun _ _ _ _ => 0)
  case atStart => exact HI.out
  case round =>
    clear HI
    obtain ⟨k, a, hk, rfl, rfl, ha, hA, hB⟩ := hrel
    have hla := bl_len a
    obtain rfl : k = 0 := by omega
    have hS := fun W hT => sum_any a W hT (by omega)
    have hQ := fun W hh hT => hashSum_any W H (bl a) hh (by omega) hT (by omega)
    have hL := fun W hh => len_any W H (bl a) hh (by omega)
    rw [hla] at hL
    generalize ba (digest (bl a)) = D at hS hQ
    have HH := Lib.hid (And.intro hA (And.intro hB (HT.out.next hB)))
    have hlt3 := hA.lt
    clear hA hB
    go_wp2_with fail
    refine (hQ _ HH.out.1 HH.out.2.2).mono ?_
    rintro e W4 ⟨rfl, hb4⟩
    have HJ := Lib.hid (And.intro (HH.out.1.below hb4 hlt3) (And.intro (HH.out.2.1.trans (hb4.mono HH.out.2.1.size)) (HH.out.2.2.next hb4)))
    have hz4 := hb4.size
    clear hb4
    go_wp2_with fail
    refine (hS _ HJ.out.2.2).mono ?_
    rintro e W5 ⟨rfl, hb5⟩
    have HK := Lib.hid (And.intro (HJ.out.1.below hb5 (by omega)) (HJ.out.2.1.trans (hb5.mono HJ.out.2.1.size)))
    clear hb5
    go_wp2_with fail
    refine (hL _ HK.out.1).mono ?_
    rintro e W6 ⟨rfl, rfl⟩
    go_wp2
    go_ret
    exact ⟨rfl, HK.out.2⟩

/-- Every list of strings. -/
theorem shaParts_any (v : Value) (w : World) (hv : ListOf w v) (ht : Tab w) : Calls Tryd.prog 5 #[v] w fun e w' => e = .returned (.bool true) ∧ Below w.heap.size w w' := by
  obtain ⟨a, len, cap, rfl, hl, hv⟩ := hv
  rcases hv with rfl | ⟨b, off, ss, rfl, rfl, g1, g2, g3, g4, g5⟩
  · exact parts_none a cap w ht
  · exact parts_some b off cap ss w hl g4 g5 g3 ht
end Go.Proofs.YtkoidcepamgidaaDoor
