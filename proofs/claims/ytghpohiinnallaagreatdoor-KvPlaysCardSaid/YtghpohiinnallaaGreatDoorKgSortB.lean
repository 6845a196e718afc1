/-
  Merging in place, first part.
-/
import Derived.Test.YtghpohiinnallaaGreatDoorKgSortA

/-
  Walks of the merge of two sorted neighbours, where one of them is a single change.
-/
namespace Go.Proofs.YtghpohiinnallaaGreatDoor.Kv
open Go Go.RowKit
open Go.Proofs.YtghpohiinnallaaGreatDoor.Batch
open Go.Proofs.YtghpohiinnallaaGreatDoor.Sha (Kept wp_region_kept wp_region_kept_tail quiet_load_row)

theorem take_lt {v : List Chg} (h : Up Chg.key v) {k : Nat} {x y : Chg} (hy : v[k]? = some y) (hl : less y.key x.key = true) : ∀ q ∈ v.take (k + 1), less q.key x.key = true := fun q hq => by
  obtain ⟨i, hi⟩ := List.getElem?_of_mem hq
  rw [List.getElem?_take] at hi
  split at hi
  · exact le_lt (up_get h hi hy (by omega)) hl
  · cases hi
theorem drop_le {v : List Chg} (h : Up Chg.key v) {k : Nat} {x y : Chg} (hy : v[k]? = some y) (hl : less y.key x.key = false) : ∀ q ∈ v.drop k, less q.key x.key = false := fun q hq => by
  obtain ⟨i, hi⟩ := List.getElem?_of_mem hq
  rw [List.getElem?_drop] at hi
  exact le_trans' hl (up_get h hy hi (by omega))
theorem take_ge {u : List Chg} (h : Up Chg.key u) {k : Nat} {x y : Chg} (hy : u[k]? = some y) (hl : less x.key y.key = false) : ∀ q ∈ u.take (k + 1), less x.key q.key = false := fun q hq => by
  obtain ⟨i, hi⟩ := List.getElem?_of_mem hq
  rw [List.getElem?_take] at hi
  split at hi
  · exact le_trans' (up_get h hi hy (by omega)) hl
  · cases hi
theorem drop_gt {u : List Chg} (h : Up Chg.key u) {k : Nat} {x y : Chg} (hy : u[k]? = some y) (hl : less x.key y.key = true) : ∀ q ∈ u.drop k, less x.key q.key = true := fun q hq => by
  obtain ⟨i, hi⟩ := List.getElem?_of_mem hq
  rw [List.getElem?_drop] at hi
  exact lt_le hl (up_get h hy hi (by omega))

set_option maxRecDepth 100000 in
set_option maxHeartbeats 4000000 in
theorem merge_one_left (w : World) (g cap N a m b : Nat) (X : List Chg) (x : Chg) (v Y : List Chg) (h : Arr w g cap (X ++ x :: (v ++ Y))) (hN : (X ++ x :: (v ++ Y)).length = N) (hX : X.length = a) (hm : a + 1 = m) (hv : m + v.length = b) (h2 : m < b) (hl : N ≤ 100000) (hu : Up Chg.key v) :
    Calls Tryz.prog 149 #[.slice (some ⟨g, 0, none⟩) N cap, .int .i64 a, .int .i64 m, .int .i64 b, cmpV] w (Sorted w g cap X (x :: v) Y) := by
  have hbN : b ≤ N := by rw [← hN]; simp; omega
  have hcN : N ≤ cap := by rw [← hN]; exact h.len
  have hcap := h.cap
  have e1 : (m : Int) - (a : Int) = 1 := by omega
  have HX := Lib.hid (And.intro hX (And.intro hv (And.intro hu h)))
  have ham : a < m := by omega
  have qa : (X ++ x :: (v ++ Y))[a]? = some x := get_mid X _ x hX
  have HR1 := Lib.hid (fun (W : World) (hk : Kept w W) => h.range qa hk)
  have HG := Lib.hid (fun (k : Nat) (y : Chg) (hy : v[k]? = some y) => (by
    rw [List.append_cons, List.getElem?_append_right (by simp; omega), List.getElem?_append_left (by have := (List.getElem?_eq_some_iff.1 hy).1; simp; omega)]
    rw [← hy]; congr 1; simp; omega : (X ++ x :: (v ++ Y))[m + k]? = some y))
  clear hN hX hu qa hv h
  go_enter Tryz.func149, Tryz.ntmps149
  go_wp2_with fail
  go_loopw [10, 11] (fun iv jv wr => ∃ (i j : Nat), iv = .int .i64 i ∧ jv = .int .i64 j ∧ m ≤ i ∧ i ≤ j ∧ j ≤ b ∧ (∀ q ∈ v.take (i - m), less q.key x.key = true) ∧ (∀ q ∈ v.drop (j - m), less q.key x.key = false) ∧ Below w.heap.size w wr) (fun i j _ => (intOf j - intOf i).toNat)
  case atStart =>
    obtain ⟨hX, hv, hu, h⟩ := HX.out
    exact ⟨m, b, rfl, rfl, Nat.le_refl _, by omega, Nat.le_refl _, (by rw [Nat.sub_self]; intro q hq; cases hq), (by rw [List.drop_eq_nil_of_le (by omega)]; intro q hq; cases hq), Below.refl _ _⟩
  case round =>
    obtain ⟨i, j, rfl, rfl, hi1, hij, hjb, hT, hD, hB⟩ := hrel
    obtain ⟨hX, hv, hu, h⟩ := HX.out
    by_cases hlt : i < j
    · obtain ⟨c, hc1, hc2, hc3⟩ : ∃ c : Nat, ((i : Int) + j) / 2 = c ∧ i ≤ c ∧ c < j := ⟨(i + j) / 2, by omega, by omega, by omega⟩
      obtain ⟨y, hy⟩ : ∃ y, v[c - m]? = some y := ⟨v[c - m]'(by omega), List.getElem?_eq_getElem (by omega)⟩
      have hq := HG.out (c - m) y hy
      rw [show m + (c - m) = c by omega] at hq
      have HR2 := Lib.hid (fun (W : World) (hk : Kept wr W) => h.range hq (Below.trans hB (Below.mono hk hB.size)))
      have HR3 := Lib.hid (fun (W : World) (hk : Kept wr W) => HR1.out W (Below.trans hB (Below.mono hk hB.size)))
      obtain ⟨n, hn, hns⟩ := cmp_sign y.key x.key
      have HCM := Lib.hid (fun (W : World) => cmp_n y x W n hn)
      have hcN2 : c < N := by omega
      have haN : a < N := by omega
      have HS := Lib.hid (And.intro hT (And.intro hD (And.intro hB hy)))
      clear hT hD hB hy hq hn hX hv hu h
      rcases hns with ⟨rfl, hls⟩ | ⟨rfl, hls⟩ | ⟨rfl, hls⟩
      all_goals
        have HLS := Lib.hid hls
        clear hls
        go_wp2_with fail
        refine wp_region_kept (by kernel_rfl) (by kernel_rfl) ?_
        repeat (first
          | (go_big_quiet_want
             first
               | refine quiet_load_row chgT (.tmp 43) rfl g (c * 3) (by simp [Act.eval]) (chC y) _ (fun w' hk => HR2.out w' hk) Tryz.underlying123 rfl size3 ?_
               | refine quiet_load_row chgT (.tmp 47) rfl g (a * 3) (by simp [Act.eval]) (chC x) _ (fun w' hk => HR3.out w' hk) Tryz.underlying123 rfl size3 ?_
             go_simp
             go_big_quiet_on)
          | (go_big_quiet_step ((first | (exact fun _ => rfl) | (intro hk; go_at_call 89; exact hk.call (HCM.out _))))))
        refine wpQuiet_nil ?_
        intro W hk
        have HW := Lib.hid (Below.trans HS.out.2.2.1 (Below.mono hk HS.out.2.2.1.size))
        clear hk
        go_wp2_with fail
        go_roundw
        case rel =>
          obtain ⟨hT, hD, hB, hy⟩ := HS.out
          obtain ⟨hX, hv, hu, h⟩ := HX.out
          first
            | exact ⟨c + 1, j, by simp, rfl, by omega, by omega, hjb, (by rw [show c + 1 - m = (c - m) + 1 by omega]; exact take_lt hu hy HLS.out), hD, HW.out⟩
            | exact ⟨i, c, rfl, rfl, hi1, by omega, by omega, hT, drop_le hu hy HLS.out, HW.out⟩
        case measure => simp [intOf]; omega
    · obtain rfl : i = j := by omega
      have hlen : (v.take (i - m)).length = i - m := by rw [List.length_take]; omega
      have hvs : v = v.take (i - m) ++ v.drop (i - m) := (List.take_append_drop _ _).symm
      have hcut := cut_left hT hD (by rw [← hvs]; exact hu)
      rw [← hvs] at hcut
      have hlen2 : (v.drop (i - m)).length + (i - m) = v.length := by rw [List.length_drop]; omega
      generalize v.take (i - m) = v1 at *
      generalize v.drop (i - m) = v2 at *
      have HS := Lib.hid (And.intro hvs (And.intro hlen (And.intro hcut (And.intro hB hlen2))))
      have hA := h.below hB
      rw [hvs] at hA
      have HA := Lib.hid hA
      have ei : (i : Int) - 1 = ((i - 1 : Nat) : Int) := by omega
      obtain ⟨z, hz⟩ : ∃ z, z = i - 1 := ⟨_, rfl⟩
      rw [← hz] at ei
      have HZ := Lib.hid hz
      clear hT hD hB hvs hlen hcut hA h hu hX hv hlen2 hz
      go_wp2_with fail
      obtain ⟨wo, hwo⟩ : ∃ wo, wo = wr := ⟨_, rfl⟩
      rw [← hwo] at HA HS
      go_loopw [13] (fun kv wr2 => ∃ (k : Nat) (p q : List Chg), kv = .int .i64 k ∧ v1 = p ++ q ∧ a + p.length = k ∧ Arr wr2 g cap ((X ++ p) ++ x :: (q ++ (v2 ++ Y))) ∧ Fr (fun k => k = g) w wr2) (fun k _ => i - (intOf k).toNat)
      case atStart => exact ⟨a, [], v1, rfl, rfl, rfl, (by rw [← hwo]; simpa using HA.out), (by rw [← hwo]; exact Fr.of_below HS.out.2.2.2.1)⟩
      case round =>
        obtain ⟨k, p, q, rfl, hpq, hpk, ha, hf⟩ := hrel
        obtain ⟨hvs, hlen, hcut, hB, hlen2⟩ := HS.out
        have hX := HX.out.1
        have hz := HZ.out
        have hpq2 : p.length + q.length = i - m := by rw [← hlen, hpq, List.length_append]
        by_cases hk : k < z
        · obtain ⟨y, q1, hq1⟩ := cons_of (show 0 < q.length by omega)
          have e0 : (X ++ p) ++ x :: (q ++ (v2 ++ Y)) = (X ++ p) ++ x :: ([] ++ y :: (q1 ++ (v2 ++ Y))) := by rw [hq1]; simp
          rw [e0] at ha
          obtain ⟨R, hR⟩ : ∃ R, R = k + 1 := ⟨_, rfl⟩
          obtain ⟨s1, s2, s3⟩ := swap_list (X ++ p) [] (q1 ++ (v2 ++ Y)) x y (i := k) (j := R) (by simp; omega) (by simp; omega)
          obtain ⟨x0, x1, x2⟩ := three (ha.at s1)
          obtain ⟨y0, y1, y2⟩ := three (ha.at s2)
          have f0 := ha.free (k * 3)
          have f1 := ha.free (k * 3 + 1)
          have f2 := ha.free (k * 3 + 2)
          have g0 := ha.free (R * 3)
          have g1 := ha.free (R * 3 + 1)
          have g2 := ha.free (R * 3 + 2)
          have hsw := ha.swap (i := k) (j := R) (List.getElem?_eq_some_iff.1 s1).1 (List.getElem?_eq_some_iff.1 s2).1 x y
          rw [s3] at hsw
          have hrn : R < N := by omega
          have hkR : k < R := by omega
          have eR : (k : Int) + 1 = (R : Int) := by omega
          have HW := Lib.hid (And.intro hsw (And.intro hf (And.intro hpq (And.intro hpk (And.intro hq1 hR)))))
          clear hsw hf hpq hpk hq1 hR ha e0 s1 s2 s3 hvs hlen hcut hB hX hz hpq2 hlen2
          go_wp2_with fail
          go_region
          all_goals
            go_wp2_with fail
            go_roundw
            case rel =>
              obtain ⟨hsw, hf, hpq, hpk, hq1, hR⟩ := HW.out
              refine ⟨R, p ++ [y], q1, by first | rfl | simp, by rw [hpq, hq1]; simp, by simp; omega, ?_, ?_⟩
              · have := hsw.drew
                simpa using this
              · exact (hf.trans (swFr _ g k R x y) fun _ _ e => e).drew
            case measure => simp [intOf]; omega
        · have hq0 : q = [] := List.length_eq_zero_iff.1 (by omega)
          have HW := Lib.hid (And.intro ha (And.intro hf (And.intro hpq hq0)))
          clear ha hf hpq hq0 hvs hlen hcut hB hX hz hpq2 hlen2
          go_wp2_with fail
          go_end0
          obtain ⟨ha, hf, hpq, hq0⟩ := HW.out
          obtain ⟨hvs, hlen, hcut, hB, hlen2⟩ := HS.out
          rw [hq0, List.append_nil] at hpq
          refine ⟨v1 ++ x :: v2, ⟨rfl, ?_, hf⟩, hcut.1, hcut.2, ?_⟩
          · rw [hq0, ← hpq] at ha
            simpa using ha
          · rw [hvs]; simp; omega
end Go.Proofs.YtghpohiinnallaaGreatDoor.Kv

/-
  Walks of the merge of two sorted neighbours, continued: the second one is a single change.
-/
namespace Go.Proofs.YtghpohiinnallaaGreatDoor.Kv
open Go Go.RowKit
open Go.Proofs.YtghpohiinnallaaGreatDoor.Batch
open Go.Proofs.YtghpohiinnallaaGreatDoor.Sha (Kept wp_region_kept wp_region_kept_tail quiet_load_row)

set_option maxRecDepth 100000 in
set_option maxHeartbeats 4000000 in
theorem merge_one_right (w : World) (g cap N a m b : Nat) (X u : List Chg) (x : Chg) (Y : List Chg) (h : Arr w g cap (X ++ (u ++ x :: Y))) (hN : (X ++ (u ++ x :: Y)).length = N) (hX : X.length = a) (hm : a + u.length = m) (hb : m + 1 = b) (h2 : a + 1 < m) (hl : N ≤ 100000) (hu : Up Chg.key u) :
    Calls Tryz.prog 149 #[.slice (some ⟨g, 0, none⟩) N cap, .int .i64 a, .int .i64 m, .int .i64 b, cmpV] w (Sorted w g cap X (u ++ [x]) Y) := by
  have hbN : b ≤ N := by rw [← hN]; simp; omega
  have hcN : N ≤ cap := by rw [← hN]; exact h.len
  have hcap := h.cap
  have e1 : ((m : Int) - (a : Int) == 1) = false := by simp; omega
  have e1' : ¬ (m : Int) - (a : Int) = 1 := by omega
  have e2 : (b : Int) - (m : Int) = 1 := by omega
  have HX := Lib.hid (And.intro hX (And.intro hm (And.intro hu h)))
  have qa : (X ++ (u ++ x :: Y))[m]? = some x := by rw [← List.append_assoc]; exact get_mid (X ++ u) Y x (by simp; omega)
  have HR1 := Lib.hid (fun (W : World) (hk : Kept w W) => h.range qa hk)
  have HG := Lib.hid (fun (k : Nat) (y : Chg) (hy : u[k]? = some y) => (by
    rw [List.getElem?_append_right (by omega), List.getElem?_append_left (by have := (List.getElem?_eq_some_iff.1 hy).1; omega)]
    rw [← hy]; congr 1; omega : (X ++ (u ++ x :: Y))[a + k]? = some y))
  clear hN hX hu qa hm h
  go_enter Tryz.func149, Tryz.ntmps149
  go_wp2_with fail
  go_loopw [14, 15] (fun iv jv wr => ∃ (i j : Nat), iv = .int .i64 i ∧ jv = .int .i64 j ∧ a ≤ i ∧ i ≤ j ∧ j ≤ m ∧ (∀ q ∈ u.take (i - a), less x.key q.key = false) ∧ (∀ q ∈ u.drop (j - a), less x.key q.key = true) ∧ Below w.heap.size w wr) (fun i j _ => (intOf j - intOf i).toNat)
  case atStart =>
    obtain ⟨hX, hm, hu, h⟩ := HX.out
    exact ⟨a, m, rfl, rfl, Nat.le_refl _, by omega, Nat.le_refl _, (by rw [Nat.sub_self]; intro q hq; cases hq), (by rw [List.drop_eq_nil_of_le (by omega)]; intro q hq; cases hq), Below.refl _ _⟩
  case round =>
    obtain ⟨i, j, rfl, rfl, hi1, hij, hjb, hT, hD, hB⟩ := hrel
    obtain ⟨hX, hm, hu, h⟩ := HX.out
    by_cases hlt : i < j
    · obtain ⟨c, hc1, hc2, hc3⟩ : ∃ c : Nat, ((i : Int) + j) / 2 = c ∧ i ≤ c ∧ c < j := ⟨(i + j) / 2, by omega, by omega, by omega⟩
      obtain ⟨y, hy⟩ : ∃ y, u[c - a]? = some y := ⟨u[c - a]'(by omega), List.getElem?_eq_getElem (by omega)⟩
      have hq := HG.out (c - a) y hy
      rw [show a + (c - a) = c by omega] at hq
      have HR2 := Lib.hid (fun (W : World) (hk : Kept wr W) => h.range hq (Below.trans hB (Below.mono hk hB.size)))
      have HR3 := Lib.hid (fun (W : World) (hk : Kept wr W) => HR1.out W (Below.trans hB (Below.mono hk hB.size)))
      obtain ⟨n, hn, hns⟩ := cmp_sign x.key y.key
      have HCM := Lib.hid (fun (W : World) => cmp_n x y W n hn)
      have hcN2 : c < N := by omega
      have hmN : m < N := by omega
      have HS := Lib.hid (And.intro hT (And.intro hD (And.intro hB hy)))
      clear hT hD hB hy hq hn hX hm hu h
      rcases hns with ⟨rfl, hls⟩ | ⟨rfl, hls⟩ | ⟨rfl, hls⟩
      all_goals
        have HLS := Lib.hid hls
        clear hls
        go_wp2_with fail
        refine wp_region_kept (by kernel_rfl) (by kernel_rfl) ?_
        repeat (first
          | (go_big_quiet_want
             first
               | refine quiet_load_row chgT (.tmp 95) rfl g (m * 3) (by simp [Act.eval]) (chC x) _ (fun w' hk => HR3.out w' hk) Tryz.underlying123 rfl size3 ?_
               | refine quiet_load_row chgT (.tmp 99) rfl g (c * 3) (by simp [Act.eval]) (chC y) _ (fun w' hk => HR2.out w' hk) Tryz.underlying123 rfl size3 ?_
             go_simp
             go_big_quiet_on)
          | (go_big_quiet_step ((first | (exact fun _ => rfl) | (intro hk; go_at_call 89; exact hk.call (HCM.out _))))))
        refine wpQuiet_nil ?_
        intro W hk
        have HW := Lib.hid (Below.trans HS.out.2.2.1 (Below.mono hk HS.out.2.2.1.size))
        clear hk
        go_wp2_with fail
        go_roundw
        case rel =>
          obtain ⟨hT, hD, hB, hy⟩ := HS.out
          obtain ⟨hX, hm, hu, h⟩ := HX.out
          first
            | exact ⟨c + 1, j, by simp, rfl, by omega, by omega, hjb, (by rw [show c + 1 - a = (c - a) + 1 by omega]; exact take_ge hu hy HLS.out), hD, HW.out⟩
            | exact ⟨i, c, rfl, rfl, hi1, by omega, by omega, hT, drop_gt hu hy HLS.out, HW.out⟩
        case measure => simp [intOf]; omega
    · obtain rfl : i = j := by omega
      have hlen : (u.take (i - a)).length = i - a := by rw [List.length_take]; omega
      have hvs : u = u.take (i - a) ++ u.drop (i - a) := (List.take_append_drop _ _).symm
      have hcut := cut_right hT hD (by rw [← hvs]; exact hu)
      rw [← List.append_assoc, ← hvs] at hcut
      have hlen2 : (u.drop (i - a)).length + (i - a) = u.length := by rw [List.length_drop]; omega
      generalize u.take (i - a) = u1 at *
      generalize u.drop (i - a) = u2 at *
      have HS := Lib.hid (And.intro hvs (And.intro hlen (And.intro hcut (And.intro hB hlen2))))
      have hA := h.below hB
      rw [hvs] at hA
      have HA := Lib.hid hA
      clear hT hD hB hvs hlen hcut hA h hu hX hm hlen2
      go_wp2_with fail
      obtain ⟨wo, hwo⟩ : ∃ wo, wo = wr := ⟨_, rfl⟩
      rw [← hwo] at HA HS
      go_loopw [17] (fun kv wr2 => ∃ (k : Nat) (p q : List Chg), kv = .int .i64 k ∧ u2 = p ++ q ∧ i + p.length = k ∧ Arr wr2 g cap ((X ++ (u1 ++ p)) ++ x :: (q ++ Y)) ∧ Fr (fun k => k = g) w wr2) (fun k _ => (intOf k).toNat)
      case atStart =>
        obtain ⟨hvs, hlen, hcut, hB, hlen2⟩ := HS.out
        exact ⟨m, u2, [], rfl, (by simp), (by have := HX.out.2.1; omega), (by rw [← hwo]; simpa using HA.out), (by rw [← hwo]; exact Fr.of_below hB)⟩
      case round =>
        obtain ⟨k, p, q, rfl, hpq, hpk, ha, hf⟩ := hrel
        obtain ⟨hvs, hlen, hcut, hB, hlen2⟩ := HS.out
        obtain ⟨hX, hm, _, _⟩ := HX.out
        have hpq2 : p.length + q.length + i = m := by have := congrArg List.length hpq; rw [List.length_append] at this; omega
        by_cases hk : i < k
        · obtain ⟨p1, y, hp1⟩ := snoc_of (show 0 < p.length by omega)
          obtain ⟨R, hR⟩ : ∃ R, k = R + 1 := ⟨k - 1, by omega⟩
          have hpl : p.length = p1.length + 1 := by rw [hp1]; simp
          have e0 : (X ++ (u1 ++ p)) ++ x :: (q ++ Y) = (X ++ (u1 ++ p1)) ++ y :: ([] ++ x :: (q ++ Y)) := by rw [hp1]; simp
          rw [e0] at ha
          obtain ⟨s1, s2, s3⟩ := swap_list (X ++ (u1 ++ p1)) [] (q ++ Y) y x (i := R) (j := k) (by simp; omega) (by simp; omega)
          obtain ⟨y0, y1, y2⟩ := three (ha.at s1)
          obtain ⟨x0, x1, x2⟩ := three (ha.at s2)
          have f0 := ha.free (k * 3)
          have f1 := ha.free (k * 3 + 1)
          have f2 := ha.free (k * 3 + 2)
          have g0 := ha.free (R * 3)
          have g1 := ha.free (R * 3 + 1)
          have g2 := ha.free (R * 3 + 2)
          have hsw := ha.swap (i := k) (j := R) (List.getElem?_eq_some_iff.1 s2).1 (List.getElem?_eq_some_iff.1 s1).1 x y
          rw [List.set_comm _ _ (by omega), s3] at hsw
          have hkn : k < N := by omega
          have hkR : R < k := by omega
          have eR : (k : Int) - 1 = (R : Int) := by omega
          have HW := Lib.hid (And.intro hsw (And.intro hf (And.intro hpq (And.intro hpk (And.intro hp1 (And.intro hR hpl))))))
          clear hsw hf hpq hpk hp1 hR ha e0 s1 s2 s3 hvs hlen hcut hB hX hm hpq2 hlen2 hpl
          go_wp2_with fail
          go_region
          all_goals
            go_wp2_with fail
            go_roundw
            case rel =>
              obtain ⟨hsw, hf, hpq, hpk, hp1, hR, hpl⟩ := HW.out
              refine ⟨R, p1, y :: q, by first | rfl | simp, by rw [hpq, hp1]; simp, by omega, ?_, ?_⟩
              · have := hsw.drew
                simpa using this
              · exact (hf.trans (swFr _ g k R x y) fun _ _ e => e).drew
            case measure => simp [intOf]; omega
        · have hp0 : p = [] := List.length_eq_zero_iff.1 (by omega)
          have HW := Lib.hid (And.intro ha (And.intro hf (And.intro hpq hp0)))
          clear ha hf hpq hp0 hvs hlen hcut hB hX hm hpq2 hlen2
          go_wp2_with fail
          go_end0
          obtain ⟨ha, hf, hpq, hp0⟩ := HW.out
          obtain ⟨hvs, hlen, hcut, hB, hlen2⟩ := HS.out
          rw [hp0, List.nil_append] at hpq
          refine ⟨u1 ++ x :: u2, ⟨rfl, ?_, hf⟩, hcut.1, hcut.2, ?_⟩
          · rw [hp0, ← hpq] at ha
            simpa using ha
          · rw [hvs]; simp
end Go.Proofs.YtghpohiinnallaaGreatDoor.Kv
