/-
  The walk of the law NetsBack.
-/
import Derived.Test.YtpjbhcampfjgdaaDoorWalkF
namespace Go.Proofs.YtpjbhcampfjgdaaDoor
open Go.RowKit

theorem take_b (s x y : ByteArray) (c : Nat) (w : World) (hs : s.size ≤ 100000) (H : Hid (takeS (bl s) = (bl x, bl y, c))) :
    Calls Tryd.prog 8 #[.string s] w fun e w' => e = .returned (.tuple #[.string x, .string y, .int .i64 c]) ∧ Below w.heap.size w w' := take_as s (bl x) (bl y) c w hs H
theorem take_b0 (s x y : ByteArray) (w : World) (hs : s.size ≤ 100000) (H : Hid (takeS (bl s) = (bl x, bl y, 0))) :
    Calls Tryd.prog 8 #[.string s] w fun e w' => e = .returned (.tuple #[.string x, .string y, .int .i64 0]) ∧ Below w.heap.size w w' := take_as s (bl x) (bl y) 0 w hs H
theorem put_b (s x : ByteArray) (w : World) (hs : s.size ≤ 100000) (ht : Tab w) (H : Hid (bl x = putS (bl s))) :
    Calls Tryd.prog 10 #[.string s] w fun e w' => e = .returned (.string x) ∧ Below w.heap.size w w' := by
  have h := put_any s w hs ht
  rw [← H.out] at h
  exact h
theorem bl_app (x y : ByteArray) : bl (x ++ y) = bl x ++ bl y := by simp
theorem list_bl (x : ByteArray) : x.toList = bl x := Lib.toList_data x
theorem bl_len (x : ByteArray) : (bl x).length = x.size := by simp

theorem triple {α β γ : Type} (r : α × β × γ) {a : α} {b : β} (h1 : r.1 = a) (h2 : r.2.1 = b) : r = (a, b, r.2.2) := by
  obtain ⟨x, y, z⟩ := r
  simp at h1 h2
  rw [h1, h2]

set_option maxHeartbeats 1000000 in
theorem netsBack_any (s t : ByteArray) (w : World) (hs : s.size ≤ 9223372036854775807) (hl : t.size ≤ 9223372036854775807) (ht : Tab w) : Calls Tryd.prog 5 #[.string s, .string t] w fun e w' => e = .returned (.bool true) ∧ Below w.heap.size w w' := by
  have HT := Lib.hid ht
  clear ht
  by_cases h1 : s.size ≤ 3000 ∧ t.size ≤ 3000
  · obtain ⟨h1, h2⟩ := h1
    obtain ⟨x, hx⟩ : ∃ x, bl x = putS (bl s) := ⟨ba (putS (bl s)), bl_ba _⟩
    have hxz : x.size ≤ 100011 := by rw [← bl_len, hx]; exact put_len _ (by rw [bl_len]; omega)
    have hxz2 : x.size ≤ 3011 := by
      have := dec_len s.size (by omega)
      have e : (bl x).length = (Lib.decDigits s.size).length + (s.size + 1 + 1) := by rw [hx]; unfold putS; rw [bl_len]; simp
      rw [bl_len] at e
      omega
    have HX := Lib.hid hx
    have HB : Hid (takeS (bl (x ++ t)) = (bl s, bl t, 0)) := by
      show takeS (bl (x ++ t)) = (bl s, bl t, 0)
      rw [bl_app, hx]
      exact take_put _ _ (by rw [bl_len]; omega)
    clear hx hxz
    have hxt : (x ++ t).size ≤ 100000 := by rw [ByteArray.size_append]; omega
    rcases put_take (bl t) with ⟨g1, g2, g3⟩ | ⟨g1, g2, g3⟩
    · obtain ⟨u, y, hT⟩ : ∃ u y : ByteArray, takeS (bl t) = (bl u, bl y, 0) := ⟨ba (takeS (bl t)).1, ba (takeS (bl t)).2.1, by rw [bl_ba, bl_ba, ← g1]⟩
      rw [hT] at g2 g3
      obtain ⟨z, hz⟩ : ∃ z, bl z = putS (bl u) := ⟨ba (putS (bl u)), bl_ba _⟩
      have hzt : z ++ y = t := by
        apply ByteArray.ext
        apply Array.toList_inj.1
        show bl (z ++ y) = bl t
        rw [bl_app, hz]
        exact g2
      have hsz : z.size + y.size = t.size := by rw [← hzt, ByteArray.size_append]
      have huz : u.size ≤ z.size := by
        have e : (bl z).length = (putS (bl u)).length := by rw [hz]
        unfold putS at e
        simp only [List.length_append, List.length_cons, bl_len] at e
        omega
      have HZ := Lib.hid hz
      have HY := Lib.hid hT
      have HQ := Lib.hid hzt
      have hzl : z.size ≤ 3000 := by omega
      have hyl : y.size ≤ 3000 := by omega
      have hul : u.size ≤ 3000 := by omega
      clear hz hT hzt hsz huz g1 g2 g3
      go_enter Tryd.func5, Tryd.ntmps5
      go_wp2_with (go_at_call 7; refine (works_any _ HT.out).mono ?_; rintro e w1 ⟨rfl, hb1⟩)
      refine (put_b s x _ (by omega) (HT.out.below hb1) HX).mono ?_
      rintro e w2 ⟨rfl, hb2⟩
      have HB2 : Hid (Below w.heap.size w w2) := hb1.trans (hb2.mono hb1.size)
      go_wp2_with fail
      refine (take_b0 (x ++ t) s t _ hxt HB).mono ?_
      rintro e w3 ⟨rfl, hb3⟩
      have HB3 : Hid (Below w.heap.size w w3) := HB2.out.trans (hb3.mono HB2.out.size)
      go_wp2_with fail
      refine (take_b0 t u y _ (by omega) HY).mono ?_
      rintro e w4 ⟨rfl, hb4⟩
      have HB4 : Hid (Below w.heap.size w w4) := HB3.out.trans (hb4.mono HB3.out.size)
      go_wp2_with fail
      refine (put_b u z _ (by omega) (HT.out.below HB4.out) HZ).mono ?_
      rintro e w5 ⟨rfl, hb5⟩
      go_wp2_with fail
      go_ret
      refine ⟨?_, HB4.out.trans (hb5.mono HB4.out.size)⟩
      have e : ((z ++ y).toList == t.toList) = true := by rw [HQ.out]; simp
      exact congrArg (fun b => Ending.returned (.bool b)) e
    · obtain ⟨c, hT, hc⟩ : ∃ c, takeS (bl t) = ([], [], c) ∧ c ≠ 0 := ⟨(takeS (bl t)).2.2, triple _ g2 g3, g1⟩
      have hne : ((c : Int) != 0) = true := by simpa using hc
      have HY : Hid (takeS (bl t) = (bl ⟨#[]⟩, bl ⟨#[]⟩, c)) := hT
      clear hT hc g1 g2 g3
      go_enter Tryd.func5, Tryd.ntmps5
      go_wp2_with (go_at_call 7; refine (works_any _ HT.out).mono ?_; rintro e w1 ⟨rfl, hb1⟩)
      refine (put_b s x _ (by omega) (HT.out.below hb1) HX).mono ?_
      rintro e w2 ⟨rfl, hb2⟩
      have HB2 : Hid (Below w.heap.size w w2) := hb1.trans (hb2.mono hb1.size)
      go_wp2_with fail
      refine (take_b0 (x ++ t) s t _ hxt HB).mono ?_
      rintro e w3 ⟨rfl, hb3⟩
      have HB3 : Hid (Below w.heap.size w w3) := HB2.out.trans (hb3.mono HB2.out.size)
      go_wp2_with fail
      refine (take_b t ⟨#[]⟩ ⟨#[]⟩ c _ (by omega) HY).mono ?_
      rintro e w4 ⟨rfl, hb4⟩
      go_wp2_with fail
      go_ret
      exact ⟨rfl, HB3.out.trans (hb4.mono HB3.out.size)⟩
  · by_cases h2 : s.size ≤ 3000
    · have h3 : 3000 < t.size := by omega
      clear h1
      go_enter Tryd.func5, Tryd.ntmps5
      go_wp2_with (go_at_call 7; refine (works_any _ HT.out).mono ?_; rintro e w5 ⟨rfl, hb5⟩)
      go_ret
      exact ⟨rfl, hb5⟩
    · have h3 : 3000 < s.size := by omega
      clear h1 h2
      go_enter Tryd.func5, Tryd.ntmps5
      go_wp2_with (go_at_call 7; refine (works_any _ HT.out).mono ?_; rintro e w5 ⟨rfl, hb5⟩)
      go_ret
      exact ⟨rfl, hb5⟩
end Go.Proofs.YtpjbhcampfjgdaaDoor
