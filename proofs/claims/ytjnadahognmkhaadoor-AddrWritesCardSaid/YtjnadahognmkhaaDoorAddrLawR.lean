/-
  Walk of the law AddrRight.
-/
import Derived.Test.YtjnadahognmkhaaDoorAddrLawA
namespace Go.Proofs.YtjnadahognmkhaaDoor.Addr
open Go Go.RowKit
open Go.Proofs.YtjnadahognmkhaaDoor.Lex (bl ba bl_len ba_size bl_ba ba_bl Lies range_below ret_bool below_drewN)
open Go.Proofs.YtjnadahognmkhaaDoor.Glyph (fd foldL foldL_foldL fold_any)

/-- A call that reads an address, by what it answers. -/
theorem AdPost.calls {f : FuncId} {args : Array Value} {r : Ad × Nat} {l d : ByteArray} {c : Nat} (h : ∀ W, Calls Tryd.prog f args W (AdPost r W)) (h1 : r = (⟨bl l, bl d⟩, c)) (W : World) :
    Calls Tryd.prog f args W fun e W' => e = .returned (.tuple #[adB l d, .int .i64 c]) ∧ Below W.heap.size W W' := by
  have := h W
  rw [h1] at this
  exact this
theorem box_at {w w1 w2 : World} {t : TypeId} {l d : ByteArray} (hb : Below (w1.alloc (boxA t l d)).heap.size (w1.alloc (boxA t l d)) w2) (_h : w.heap.size ≤ w1.heap.size) : w2.rangeAt w1.heap.size 0 (cellsA l d) :=
  range_below (new_boxA w1 t l d) (by simp) hb
abbrev zS : ByteArray := ⟨#[]⟩
set_option maxRecDepth 100000 in
set_option maxHeartbeats 4000000 in
theorem addrRight_any (s : ByteArray) (w : World) (_hs : s.size < 9223372036854775808) : Calls Tryd.prog 6 #[.string s] w (TrueP w) := by
  have HW := Lib.hid (fun W => works_any W)
  by_cases hlen : s.size ≤ 1000
  · have hd : decide ((1000 : Int) < (s.size : Int)) = false := decide_eq_false (by omega)
    have HP := fun W => parse_any s W (by omega)
    have HS := fun W => strict_any s W (by omega)
    rcases parse_way (bl s) with ⟨⟨al, ad⟩, hp, hr⟩ | ⟨c, hc, hp⟩
    · obtain ⟨l, rfl⟩ : ∃ l, al = bl l := ⟨ba al, (bl_ba al).symm⟩
      obtain ⟨d, rfl⟩ : ∃ d, ad = bl d := ⟨ba ad, (bl_ba ad).symm⟩
      obtain ⟨_, _, hz1, hz2, hz3⟩ := right_parts hr
      rw [bl_len] at hz1 hz2
      have HP2 := Lib.hid (AdPost.calls HP hp)
      have HT := Lib.hid (fun W => text_any l d W (by omega) (by omega))
      have hzt : (ba (textL ⟨bl l, bl d⟩)).size ≤ 254 := by rw [ba_size]; exact hz3
      have HA := Lib.hid (AdPost.calls (fun W => parse_any (ba (textL ⟨bl l, bl d⟩)) W (by omega)) (l := l) (d := d) (c := 0) (by rw [bl_ba]; exact parse_text hr))
      have HR := Lib.hid (fun W => right_any l d W (by omega) (by omega))
      rw [(rightB_iff _).2 hr] at HR
      generalize ba (textL ⟨bl l, bl d⟩) = t at *
      have hq : ∀ W, (binOp .eql adT (adB l d) (adB l d)).run Tryd.prog W = .ok (.bool true) W := fun W => by rw [eql_ad]; simp
      have hst : ∃ l2 d2 c2, strictL (bl s) = (⟨bl l2, bl d2⟩, c2) ∧ (c2 = 0 → l2 = l ∧ d2 = d) := by
        rcases strict_cases (bl s) with h | h
        · exact ⟨l, d, 0, h.trans hp, fun _ => ⟨rfl, rfl⟩⟩
        · exact ⟨zS, zS, 130, h, fun h => by cases h⟩
      obtain ⟨l2, d2, c2, hs2, h2⟩ := hst
      have HS2 := Lib.hid (AdPost.calls HS hs2)
      clear HP HS hp hr hz1 hz2 hz3 hs2 hzt
      by_cases hc2 : c2 = 0
      · obtain ⟨rfl, rfl⟩ := h2 hc2
        subst hc2
        clear h2
        go_enter Tryd.func6, Tryd.ntmps6
        go_wp2_with fail
        refine (HW.out _).mono ?_
        rintro e w1 ⟨rfl, hb⟩
        have HB1 := Lib.hid hb
        clear hb
        go_wp2_with fail
        refine (HP2.out _).mono ?_
        rintro e w2 ⟨rfl, hb⟩
        have HB2 := Lib.hid ((HB1.out.trans (hb.mono HB1.out.size)).alloc (Nat.le_trans HB1.out.size hb.size) (boxA adT l2 d2))
        have HN2 := Lib.hid (new_boxA w2 adT l2 d2)
        have HZ2 : Hid (w2.heap.size < (w2.alloc (boxA adT l2 d2)).heap.size) := Lib.hid (by simp)
        clear hb
        go_wp2_with fail
        refine (HS2.out _).mono ?_
        rintro e w3 ⟨rfl, hb⟩
        have hb3 := hb.alloc hb.size (boxA adT l2 d2)
        have HB3 := Lib.hid (HB2.out.trans (hb3.mono HB2.out.size))
        have HC3 := Lib.hid (range_below HN2.out HZ2.out hb3)
        have HN3 := Lib.hid (new_boxA w3 adT l2 d2)
        have HZ3 : Hid (w2.heap.size < (w3.alloc (boxA adT l2 d2)).heap.size ∧ w3.heap.size < (w3.alloc (boxA adT l2 d2)).heap.size) := Lib.hid ⟨Nat.lt_of_lt_of_le HZ2.out hb3.size, by simp⟩
        clear hb hb3
        obtain ⟨a0, a1⟩ := twoA HC3.out
        go_wp2_with fail
        refine (HT.out _).mono ?_
        rintro e w4 ⟨rfl, hb⟩
        have HB4 := Lib.hid (HB3.out.trans (hb.mono HB3.out.size))
        have HC4 := Lib.hid (And.intro (range_below HC3.out HZ3.out.1 hb) (range_below HN3.out HZ3.out.2 hb))
        have HZ4 : Hid (w2.heap.size < w4.heap.size ∧ w3.heap.size < w4.heap.size) := Lib.hid ⟨Nat.lt_of_lt_of_le HZ3.out.1 hb.size, Nat.lt_of_lt_of_le HZ3.out.2 hb.size⟩
        clear hb a0 a1
        go_wp2_with fail
        refine (HA.out _).mono ?_
        rintro e w5 ⟨rfl, hb⟩
        have hb5 := hb.alloc hb.size (boxA adT l2 d2)
        have HB5 := Lib.hid (HB4.out.trans (hb5.mono HB4.out.size))
        have HC5 := Lib.hid (And.intro (range_below HC4.out.1 HZ4.out.1 hb5) (range_below HC4.out.2 HZ4.out.2 hb5))
        have HN5 := Lib.hid (new_boxA w5 adT l2 d2)
        have HZ5 : Hid (w2.heap.size < (w5.alloc (boxA adT l2 d2)).heap.size ∧ w3.heap.size < (w5.alloc (boxA adT l2 d2)).heap.size ∧ w5.heap.size < (w5.alloc (boxA adT l2 d2)).heap.size) := Lib.hid ⟨Nat.lt_of_lt_of_le HZ4.out.1 hb5.size, Nat.lt_of_lt_of_le HZ4.out.2 hb5.size, by simp⟩
        clear hb hb5
        obtain ⟨a0, a1⟩ := twoA HC5.out.1
        go_wp2_with fail
        refine (HR.out _).mono ?_
        rintro e w6 ⟨rfl, hb⟩
        have HB6 := Lib.hid (HB5.out.trans (hb.mono HB5.out.size))
        clear a0 a1
        obtain ⟨a0, a1⟩ := twoA (range_below HC5.out.1 HZ5.out.1 hb)
        obtain ⟨b0, b1⟩ := twoA (range_below HC5.out.2 HZ5.out.2.1 hb)
        obtain ⟨c0, c1⟩ := twoA (range_below HN5.out HZ5.out.2.2 hb)
        clear hb
        go_wp2_with fail
        go_ret
        exact ⟨rfl, HB6.out⟩
      · have hne : ((c2 : Int) != 0) = true := by rw [bne_iff_ne]; omega
        clear h2
        go_enter Tryd.func6, Tryd.ntmps6
        go_wp2_with fail
        refine (HW.out _).mono ?_
        rintro e w1 ⟨rfl, hb⟩
        have HB1 := Lib.hid hb
        clear hb
        go_wp2_with fail
        refine (HP2.out _).mono ?_
        rintro e w2 ⟨rfl, hb⟩
        have HB2 := Lib.hid ((HB1.out.trans (hb.mono HB1.out.size)).alloc (Nat.le_trans HB1.out.size hb.size) (boxA adT l d))
        have HN2 := Lib.hid (new_boxA w2 adT l d)
        have HZ2 : Hid (w2.heap.size < (w2.alloc (boxA adT l d)).heap.size) := Lib.hid (by simp)
        clear hb
        go_wp2_with fail
        refine (HS2.out _).mono ?_
        rintro e w3 ⟨rfl, hb⟩
        have hb3 := hb.alloc hb.size (boxA adT l2 d2)
        have HB3 := Lib.hid (HB2.out.trans (hb3.mono HB2.out.size))
        have HC3 := Lib.hid (range_below HN2.out HZ2.out hb3)
        have HN3 := Lib.hid (new_boxA w3 adT l2 d2)
        have HZ3 : Hid (w2.heap.size < (w3.alloc (boxA adT l2 d2)).heap.size ∧ w3.heap.size < (w3.alloc (boxA adT l2 d2)).heap.size) := Lib.hid ⟨Nat.lt_of_lt_of_le HZ2.out hb3.size, by simp⟩
        clear hb hb3
        obtain ⟨a0, a1⟩ := twoA HC3.out
        go_wp2_with fail
        refine (HT.out _).mono ?_
        rintro e w4 ⟨rfl, hb⟩
        have HB4 := Lib.hid (HB3.out.trans (hb.mono HB3.out.size))
        have HC4 := Lib.hid (And.intro (range_below HC3.out HZ3.out.1 hb) (range_below HN3.out HZ3.out.2 hb))
        have HZ4 : Hid (w2.heap.size < w4.heap.size ∧ w3.heap.size < w4.heap.size) := Lib.hid ⟨Nat.lt_of_lt_of_le HZ3.out.1 hb.size, Nat.lt_of_lt_of_le HZ3.out.2 hb.size⟩
        clear hb a0 a1
        go_wp2_with fail
        refine (HA.out _).mono ?_
        rintro e w5 ⟨rfl, hb⟩
        have hb5 := hb.alloc hb.size (boxA adT l d)
        have HB5 := Lib.hid (HB4.out.trans (hb5.mono HB4.out.size))
        have HC5 := Lib.hid (And.intro (range_below HC4.out.1 HZ4.out.1 hb5) (range_below HC4.out.2 HZ4.out.2 hb5))
        have HN5 := Lib.hid (new_boxA w5 adT l d)
        have HZ5 : Hid (w2.heap.size < (w5.alloc (boxA adT l d)).heap.size ∧ w3.heap.size < (w5.alloc (boxA adT l d)).heap.size ∧ w5.heap.size < (w5.alloc (boxA adT l d)).heap.size) := Lib.hid ⟨Nat.lt_of_lt_of_le HZ4.out.1 hb5.size, Nat.lt_of_lt_of_le HZ4.out.2 hb5.size, by simp⟩
        clear hb hb5
        obtain ⟨a0, a1⟩ := twoA HC5.out.1
        go_wp2_with fail
        refine (HR.out _).mono ?_
        rintro e w6 ⟨rfl, hb⟩
        have HB6 := Lib.hid (HB5.out.trans (hb.mono HB5.out.size))
        clear a0 a1
        obtain ⟨a0, a1⟩ := twoA (range_below HC5.out.1 HZ5.out.1 hb)
        obtain ⟨b0, b1⟩ := twoA (range_below HC5.out.2 HZ5.out.2.1 hb)
        obtain ⟨c0, c1⟩ := twoA (range_below HN5.out HZ5.out.2.2 hb)
        clear hb
        go_wp2_with fail
        go_ret
        exact ⟨rfl, HB6.out⟩
    · have hst : strictL (bl s) = (⟨bl zS, bl zS⟩, c) := strict_bad hp hc
      have HP2 := Lib.hid (AdPost.calls HP (l := zS) (d := zS) hp)
      have HS2 := Lib.hid (AdPost.calls HS hst)
      have hne : ((c : Int) != 0) = true := by rw [bne_iff_ne]; omega
      have hee : ((c : Int) == (c : Int)) = true := beq_self_eq_true _
      have hq : ∀ W, (binOp .eql adT (adB zS zS) (adB zS zS)).run Tryd.prog W = .ok (.bool true) W := fun W => by rw [eql_ad]; simp
      clear HP HS hp hst hc
      go_enter Tryd.func6, Tryd.ntmps6
      go_wp2_with fail
      refine (HW.out _).mono ?_
      rintro e w1 ⟨rfl, hb⟩
      have HB1 := Lib.hid hb
      clear hb
      go_wp2_with fail
      refine (HP2.out _).mono ?_
      rintro e w2 ⟨rfl, hb⟩
      have HB2 := Lib.hid ((HB1.out.trans (hb.mono HB1.out.size)).alloc (Nat.le_trans HB1.out.size hb.size) (boxA adT zS zS))
      have HN2 := Lib.hid (new_boxA w2 adT zS zS)
      have HZ2 : Hid (w2.heap.size < (w2.alloc (boxA adT zS zS)).heap.size) := Lib.hid (by simp)
      clear hb
      go_wp2_with fail
      refine (HS2.out _).mono ?_
      rintro e w3 ⟨rfl, hb⟩
      have hb3 := hb.alloc hb.size (boxA adT zS zS)
      have HB3 := Lib.hid (HB2.out.trans (hb3.mono HB2.out.size))
      obtain ⟨a0, a1⟩ := twoA (range_below HN2.out HZ2.out hb3)
      clear hb hb3
      go_wp2_with fail
      go_ret
      exact ⟨rfl, HB3.out⟩
  · have hd : decide ((1000 : Int) < (s.size : Int)) = true := decide_eq_true (by omega)
    go_enter Tryd.func6, Tryd.ntmps6
    go_wp2_with fail
    refine (HW.out _).mono ?_
    rintro e w1 ⟨rfl, hb⟩
    have HB := Lib.hid hb
    clear hb
    go_wp2_with fail
    go_ret
    exact ⟨rfl, HB.out⟩
end Go.Proofs.YtjnadahognmkhaaDoor.Addr
