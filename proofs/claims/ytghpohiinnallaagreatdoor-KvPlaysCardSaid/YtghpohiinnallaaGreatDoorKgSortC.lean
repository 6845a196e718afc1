/-
  Merging in place, second part; sorting.
-/
import Derived.Test.YtghpohiinnallaaGreatDoorKgSortB
import Derived.Deep.Cut
import Derived.Deep.CutRange

/-
  Walks of the merge of two sorted neighbours, both of two changes at least: where they are cut, turned about, and merged part by part.
-/
namespace Go.Proofs.YtghpohiinnallaaGreatDoor.Kv
open Go Go.RowKit
open Go.Proofs.YtghpohiinnallaaGreatDoor.Batch
open Go.Proofs.YtghpohiinnallaaGreatDoor.Sha (Kept wp_region_kept wp_region_kept_tail quiet_load_row)

theorem cut_of {u v : List Chg} (hu : Up Chg.key u) (hv : Up Chg.key v) {i j : Nat}
    (hA : i = 0 ∨ j = v.length ∨ ∃ x y, u[i - 1]? = some x ∧ v[j]? = some y ∧ less y.key x.key = false) (hB : i = u.length ∨ j = 0 ∨ ∃ x y, u[i]? = some x ∧ v[j - 1]? = some y ∧ less y.key x.key = true) :
    Cut Chg.key (u.take i) (u.drop i) (v.take j) (v.drop j) := by
  refine ⟨fun x hx y hy => ?_, fun x hx y hy => ?_⟩
  · obtain ⟨c, hc⟩ := List.getElem?_of_mem hx
    obtain ⟨d, hd⟩ := List.getElem?_of_mem hy
    rw [List.getElem?_take] at hc
    rw [List.getElem?_drop] at hd
    split at hc
    · rename_i hci
      have hdl := (List.getElem?_eq_some_iff.1 hd).1
      rcases hA with h | h | ⟨x', y', h1, h2, h3⟩
      · omega
      · omega
      · exact le_trans' (le_trans' (up_get hu hc h1 (by omega)) h3) (up_get hv h2 hd (by omega))
    · cases hc
  · obtain ⟨c, hc⟩ := List.getElem?_of_mem hx
    obtain ⟨d, hd⟩ := List.getElem?_of_mem hy
    rw [List.getElem?_drop] at hc
    rw [List.getElem?_take] at hd
    split at hd
    · rename_i hdj
      have hcl := (List.getElem?_eq_some_iff.1 hc).1
      rcases hB with h | h | ⟨x', y', h1, h2, h3⟩
      · omega
      · omega
      · exact lt_le (le_lt (up_get hv hd h2 (by omega)) h3) (up_get hu h1 hc (by omega))
    · cases hd

/-- Two neighbours, cut so that their heads go ahead of their tails. -/
structure Parts (a m b mid s e : Nat) (u v u1 u2 v1 v2 : List Chg) : Prop where
  u : u = u1 ++ u2
  v : v = v1 ++ v2
  ul : a + u1.length = s
  ur : s + u2.length = m
  vl : m + v1.length = e
  vr : e + v2.length = b
  cut : Cut Chg.key u1 u2 v1 v2
  sum : s + e = mid + m
  smid : s ≤ mid
  emid : mid ≤ e
theorem parts_of {a m b mid n s0 r0 s : Nat} {u v : List Chg} (hu : Up Chg.key u) (hv : Up Chg.key v) (hul : a + u.length = m) (hvl : m + v.length = b) (hn : n = mid + m) (hm1 : 2 * mid ≤ a + b) (hm2 : a + b ≤ 2 * mid + 1) (h2 : a + 2 ≤ m) (h3 : m + 2 ≤ b)
    (hc : (mid < m ∧ s0 + b = n ∧ r0 = mid) ∨ (m ≤ mid ∧ s0 = a ∧ r0 = m)) (hs0 : s0 ≤ s) (hr0 : s ≤ r0)
    (hA : s = s0 ∨ ∃ x y, u[s - 1 - a]? = some x ∧ v[n - s - m]? = some y ∧ less y.key x.key = false) (hB : s = r0 ∨ ∃ x y, u[s - a]? = some x ∧ v[n - 1 - s - m]? = some y ∧ less y.key x.key = true) :
    ∃ e u1 u2 v1 v2, e + s = n ∧ Parts a m b mid s e u v u1 u2 v1 v2 := by
  have hsn : s ≤ n := by omega
  refine ⟨n - s, u.take (s - a), u.drop (s - a), v.take (n - s - m), v.drop (n - s - m), by omega, (List.take_append_drop _ _).symm, (List.take_append_drop _ _).symm, ?_, ?_, ?_, ?_, ?_, by omega, by omega, by omega⟩
  · rw [List.length_take]; omega
  · rw [List.length_drop]; omega
  · rw [List.length_take]; omega
  · rw [List.length_drop]; omega
  · refine cut_of hu hv ?_ ?_
    · rcases hA with h | ⟨x, y, h1, h4, h5⟩
      · rcases hc with hc | hc
        · exact .inr (.inl (by omega))
        · exact .inl (by omega)
      · exact .inr (.inr ⟨x, y, by rw [show s - a - 1 = s - 1 - a by omega]; exact h1, h4, h5⟩)
    · rcases hB with h | ⟨x, y, h1, h4, h5⟩
      · rcases hc with hc | hc
        · exact .inr (.inl (by omega))
        · exact .inl (by omega)
      · exact .inr (.inr ⟨x, y, h1, by rw [show n - s - m - 1 = n - 1 - s - m by omega]; exact h4, h5⟩)
/-- Both halves done. -/
theorem Parts.done {a m b mid s e : Nat} {u v u1 u2 v1 v2 s1 s2 X Y : List Chg} (p : Parts a m b mid s e u v u1 u2 v1 v2) (hu : Up Chg.key u) (hv : Up Chg.key v) (h1 : Up Chg.key s1) (a1 : Alike Chg.key (u1 ++ v1) s1) (l1 : s1.length = (u1 ++ v1).length)
    (h2 : Up Chg.key s2) (a2 : Alike Chg.key (u2 ++ v2) s2) (l2 : s2.length = (u2 ++ v2).length) {w w' : World} {g cap : Nat} (ha : Arr w' g cap (X ++ (s1 ++ (s2 ++ Y)))) (hf : Fr (fun k => k = g) w w') :
    Sorted w g cap X (u ++ v) Y (.returned (.tuple #[])) w' := by
  have hh := p.cut.merge (by rw [← p.u]; exact hu) (by rw [← p.v]; exact hv) h1 a1 h2 a2
  rw [← p.u, ← p.v] at hh
  refine ⟨s1 ++ s2, ⟨rfl, by simpa using ha, hf⟩, hh.1, hh.2, ?_⟩
  rw [p.u, p.v]
  simp only [List.length_append] at l1 l2 ⊢
  omega
theorem Parts.left {a m b mid s e : Nat} {u v u1 u2 v1 v2 : List Chg} (p : Parts a m b mid s e u v u1 u2 v1 v2) (hu : Up Chg.key u) (hv : Up Chg.key v) (h : ¬ (a < s ∧ s < mid)) : Up Chg.key (u1 ++ v1) := by
  have h1 := p.ul; have h2 := p.vl; have h3 := p.sum; have h4 := p.smid
  rw [p.u] at hu
  rw [p.v] at hv
  by_cases hs : a < s
  · have : v1 = [] := List.length_eq_zero_iff.1 (by omega)
    rw [this, List.append_nil]
    exact (up_append.1 hu).1
  · have : u1 = [] := List.length_eq_zero_iff.1 (by omega)
    rw [this, List.nil_append]
    exact (up_append.1 hv).1
theorem Parts.right {a m b mid s e : Nat} {u v u1 u2 v1 v2 : List Chg} (p : Parts a m b mid s e u v u1 u2 v1 v2) (hu : Up Chg.key u) (hv : Up Chg.key v) (h : ¬ (mid < e ∧ e < b)) : Up Chg.key (u2 ++ v2) := by
  have h1 := p.ur; have h2 := p.vr; have h3 := p.sum; have h4 := p.emid
  rw [p.u] at hu
  rw [p.v] at hv
  by_cases hs : mid < e
  · have : v2 = [] := List.length_eq_zero_iff.1 (by omega)
    rw [this, List.append_nil]
    exact (up_append.1 hu).2.1
  · have : u2 = [] := List.length_eq_zero_iff.1 (by omega)
    rw [this, List.nil_append]
    exact (up_append.1 hv).2.1
theorem Parts.still {a m b mid s e : Nat} {u v u1 u2 v1 v2 : List Chg} (p : Parts a m b mid s e u v u1 u2 v1 v2) (h : ¬ (s < m ∧ m < e)) (X Y : List Chg) : X ++ (u ++ (v ++ Y)) = X ++ (u1 ++ (v1 ++ (u2 ++ (v2 ++ Y)))) := by
  have h1 := p.ur; have h2 := p.vl
  rw [p.u, p.v]
  by_cases hs : s < m
  · have : v1 = [] := List.length_eq_zero_iff.1 (by omega)
    simp [this]
  · have : u2 = [] := List.length_eq_zero_iff.1 (by omega)
    simp [this]

/-- What the merge is to do. -/
def Merges (d : Nat) : Prop := ∀ (w : World) (g cap N a m b : Nat) (X u v Y : List Chg), Arr w g cap (X ++ (u ++ (v ++ Y))) → (X ++ (u ++ (v ++ Y))).length = N → X.length = a → a + u.length = m → m + v.length = b → a < m → m < b → b - a ≤ d → N ≤ 100000 → Up Chg.key u → Up Chg.key v →
  Calls Tryz.prog 149 #[.slice (some ⟨g, 0, none⟩) N cap, .int .i64 a, .int .i64 m, .int .i64 b, cmpV] w (Sorted w g cap X (u ++ v) Y)

set_option maxRecDepth 100000 in
set_option maxHeartbeats 8000000 in
theorem merge_step (d : Nat) (ih : Merges d) (w : World) (g cap N a m b : Nat) (X u v Y : List Chg) (h : Arr w g cap (X ++ (u ++ (v ++ Y)))) (hN : (X ++ (u ++ (v ++ Y))).length = N) (hX : X.length = a) (hul : a + u.length = m) (hvl : m + v.length = b) (h2 : a + 2 ≤ m) (h3 : m + 2 ≤ b) (hd : b - a ≤ d + 1) (hl : N ≤ 100000) (hu : Up Chg.key u) (hv : Up Chg.key v) :
    Calls Tryz.prog 149 #[.slice (some ⟨g, 0, none⟩) N cap, .int .i64 a, .int .i64 m, .int .i64 b, cmpV] w (Sorted w g cap X (u ++ v) Y) := by
  have hNN : a + u.length + v.length + Y.length = N := by rw [← hN]; simp [hX]; omega
  have hbN : b ≤ N := by omega
  have hcN : N ≤ cap := by rw [← hN]; exact h.len
  have hcap := h.cap
  have e1 : ((m : Int) - (a : Int) == 1) = false := by simp; omega
  have e1' : ¬ (m : Int) - (a : Int) = 1 := by omega
  have e2 : ((b : Int) - (m : Int) == 1) = false := by simp; omega
  have e2' : ¬ (b : Int) - (m : Int) = 1 := by omega
  obtain ⟨mid, hmid, hm1, hm2⟩ : ∃ mid : Nat, ((a : Int) + b) / 2 = mid ∧ 2 * mid ≤ a + b ∧ a + b ≤ 2 * mid + 1 := ⟨(a + b) / 2, by omega, by omega, by omega⟩
  obtain ⟨n, hn⟩ : ∃ n, n = mid + m := ⟨_, rfl⟩
  have en : (mid : Int) + (m : Int) = (n : Int) := by omega
  obtain ⟨p, hp⟩ : ∃ p, n = p + 1 := ⟨n - 1, by omega⟩
  have ep : (n : Int) - 1 = (p : Int) := by omega
  have HX := Lib.hid (And.intro hX (And.intro hul (And.intro hvl (And.intro hu (And.intro hv h)))))
  have HNN := Lib.hid (And.intro hNN (And.intro hn hp))
  have HGu := Lib.hid (fun (k : Nat) (y : Chg) (hy : u[k]? = some y) => (by
    rw [List.getElem?_append_right (by omega), List.getElem?_append_left (by have := (List.getElem?_eq_some_iff.1 hy).1; omega)]
    rw [← hy]; congr 1; omega : (X ++ (u ++ (v ++ Y)))[a + k]? = some y))
  have HGv := Lib.hid (fun (k : Nat) (y : Chg) (hy : v[k]? = some y) => (by
    rw [List.getElem?_append_right (by omega), List.getElem?_append_right (by omega), List.getElem?_append_left (by have := (List.getElem?_eq_some_iff.1 hy).1; omega)]
    rw [← hy]; congr 1; omega : (X ++ (u ++ (v ++ Y)))[m + k]? = some y))
  have hnb : n ≤ 2 * N := by omega
  obtain ⟨s0, r0, hc⟩ : ∃ s0 r0 : Nat, (mid < m ∧ s0 + b = n ∧ r0 = mid) ∨ (m ≤ mid ∧ s0 = a ∧ r0 = m) := by
    by_cases hm : mid < m
    · exact ⟨n - b, mid, .inl ⟨hm, by omega, rfl⟩⟩
    · exact ⟨a, m, .inr ⟨by omega, rfl, rfl⟩⟩
  have HC := Lib.hid hc
  have HIH := Lib.hid ih
  have HDD := Lib.hid hd
  have hs0r0 : s0 ≤ r0 := by omega
  have hs0a : a ≤ s0 := by omega
  have hr0m : r0 ≤ m := by omega
  have HM := Lib.hid (And.intro hm1 hm2)
  have hmidb : mid < b := by omega
  have hmida : a < mid := by omega
  clear hX hul hvl hu hv h hNN hn hp hN ih hm1 hm2 hd
  have hmN : mid < N := by omega
  go_enter Tryz.func149, Tryz.ntmps149
  go_upto_if 140 with (fail)
  go_cut [20, 21] from 138 to 146 (fun sv rv wx => sv = .int .i64 s0 ∧ rv = .int .i64 r0 ∧ wx = w)
  case first =>
    rcases hc with ⟨hm, hs0, hr0⟩ | ⟨hm, hs0, hr0⟩
    · have es0 : (n : Int) - (b : Int) = (s0 : Int) := by omega
      have hgm : decide ((mid : Int) < (m : Int)) = true := decide_eq_true (by omega)
      have hgm2 : decide (mid < m) = true := decide_eq_true hm
      go_wp2_with fail
      go_meet
      exact ⟨rfl, by rw [hr0], rfl⟩
    · have hgm : decide ((mid : Int) < (m : Int)) = false := decide_eq_false (by omega)
      have hgm2 : decide (mid < m) = false := decide_eq_false (by omega)
      go_wp2_with fail
      go_meet
      exact ⟨by rw [hs0], by rw [hr0], rfl⟩
  case rest =>
    obtain ⟨rfl, rfl, hwc⟩ := hcut
    have HWC := Lib.hid hwc
    rw [← hwc] at HX
    clear hc hwc
    go_wp2_with fail
    go_loopw [20, 21] (fun sv rv wr => ∃ (s r : Nat), sv = .int .i64 s ∧ rv = .int .i64 r ∧ s0 ≤ s ∧ s ≤ r ∧ r ≤ r0 ∧ (s = s0 ∨ ∃ x y, u[s - 1 - a]? = some x ∧ v[n - s - m]? = some y ∧ less y.key x.key = false) ∧ (r = r0 ∨ ∃ x y, u[r - a]? = some x ∧ v[n - 1 - r - m]? = some y ∧ less y.key x.key = true) ∧ Below wc.heap.size wc wr) (fun s r _ => (intOf r - intOf s).toNat)
    case atStart => exact ⟨s0, r0, rfl, rfl, by omega, by omega, by omega, .inl rfl, .inl rfl, Below.refl _ _⟩
    case round =>
      obtain ⟨s, r, rfl, rfl, hs1, hsr, hrr, hA, hB, hBw⟩ := hrel
      obtain ⟨hX, hul, hvl, hu, hv, h⟩ := HX.out
      obtain ⟨hNN, hn, hp⟩ := HNN.out
      obtain ⟨hm1, hm2⟩ := HM.out
      have hc := HC.out
      by_cases hlt : s < r
      · obtain ⟨c, hc1, hc2, hc3⟩ : ∃ c : Nat, ((s : Int) + r) / 2 = c ∧ s ≤ c ∧ c < r := ⟨(s + r) / 2, by omega, by omega, by omega⟩
        obtain ⟨t, ht⟩ : ∃ t : Nat, t = p - c := ⟨_, rfl⟩
        have et : (p : Int) - (c : Int) = (t : Int) := by omega
        obtain ⟨x, hx⟩ : ∃ x, u[c - a]? = some x := ⟨u[c - a]'(by omega), List.getElem?_eq_getElem (by omega)⟩
        obtain ⟨y, hy⟩ : ∃ y, v[t - m]? = some y := ⟨v[t - m]'(by omega), List.getElem?_eq_getElem (by omega)⟩
        have hqx := HGu.out (c - a) x hx
        rw [show a + (c - a) = c by omega] at hqx
        have hqy := HGv.out (t - m) y hy
        rw [show m + (t - m) = t by omega] at hqy
        have HR2 := Lib.hid (fun (W : World) (hk : Kept wr W) => h.range hqx (Below.trans hBw (Below.mono hk hBw.size)))
        have HR3 := Lib.hid (fun (W : World) (hk : Kept wr W) => h.range hqy (Below.trans hBw (Below.mono hk hBw.size)))
        obtain ⟨nn, hnn, hns⟩ := cmp_sign y.key x.key
        have HCM := Lib.hid (fun (W : World) => cmp_n y x W nn hnn)
        have hcN2 : c < N := by omega
        have htN : t < N := by omega
        have hlb : ((s : Int) < (r : Int)) := by omega
        have hlb2 : decide ((s : Int) < (r : Int)) = true := decide_eq_true hlb
        have HS := Lib.hid (And.intro hA (And.intro hB (And.intro hBw (And.intro hx (And.intro hy (And.intro ht trivial))))))
        clear hA hB hBw hx hy hqx hqy hnn hX hul hvl hu hv h hNN hn hp ht hm1 hm2 hc
        rcases hns with ⟨rfl, hls⟩ | ⟨rfl, hls⟩ | ⟨rfl, hls⟩
        all_goals
          have HLS := Lib.hid hls
          clear hls
          go_wp2_with fail
          refine wp_region_kept (by kernel_rfl) (by kernel_rfl) ?_
          repeat (first
            | (go_big_quiet_want
               first
                 | refine quiet_load_row chgT (.tmp 163) rfl g (t * 3) (by simp [Act.eval]) (chC y) _ (fun w' hk => HR3.out w' hk) Tryz.underlying123 rfl size3 ?_
                 | refine quiet_load_row chgT (.tmp 167) rfl g (c * 3) (by simp [Act.eval]) (chC x) _ (fun w' hk => HR2.out w' hk) Tryz.underlying123 rfl size3 ?_
               go_simp
               go_big_quiet_on)
            | (go_big_quiet_step ((first | (exact fun _ => rfl) | (intro hk; go_at_call 89; exact hk.call (HCM.out _))))))
          refine wpQuiet_nil ?_
          intro W hk
          have HW := Lib.hid (Below.trans HS.out.2.2.1 (Below.mono hk HS.out.2.2.1.size))
          clear hk
          go_wp2_with fail
          go_roundw
          case rel =>
            obtain ⟨hA, hB, hBw, hx, hy, ht, _⟩ := HS.out
            obtain ⟨hNN, hn, hp⟩ := HNN.out
            first
              | exact ⟨c + 1, r, by simp, rfl, by omega, by omega, hrr, .inr ⟨x, y, (by rw [show c + 1 - 1 - a = c - a by omega]; exact hx), (by rw [show n - (c + 1) - m = t - m by omega]; exact hy), HLS.out⟩, hB, HW.out⟩
              | exact ⟨s, c, rfl, rfl, hs1, by omega, by omega, hA, .inr ⟨x, y, hx, (by rw [show n - 1 - c - m = t - m by omega]; exact hy), HLS.out⟩, HW.out⟩
          case measure => simp [intOf]; omega
      · obtain rfl : s = r := by omega
        obtain ⟨e, u1, u2, v1, v2, hes, hP⟩ := parts_of hu hv hul hvl hn hm1 hm2 h2 h3 HC.out hs1 hrr hA hB
        have ee : (n : Int) - (s : Int) = (e : Int) := by omega
        have f1 := hP.ul
        have f2 := hP.ur
        have f3 := hP.vl
        have f4 := hP.vr
        have f5 := hP.smid
        have f6 := hP.emid
        have hA0 := h.below hBw
        have HA0 := Lib.hid hA0
        have HF0 : Hid (Fr (fun k => k = g) w wr) := by rw [← HWC.out]; exact Fr.of_below hBw
        have HP := Lib.hid hP
        have HL := Lib.hid (And.intro f1 (And.intro f2 (And.intro f3 f4)))
        have has : a ≤ s := by omega
        have hsm : s ≤ m := by omega
        have hme : m ≤ e := by omega
        have heb : e ≤ b := by omega
        have HU := Lib.hid (And.intro hu hv)
        have hNl : X.length + (u1.length + (v1.length + (u2.length + (v2.length + Y.length)))) = N := by omega
        have HNl := Lib.hid hNl
        have hXa := Lib.hid hX
        clear hA hB hP hu hv hX hul hvl h hBw hNN hNl f1 f2 f3 f4 hA0 hc hn hp hm1 hm2 hsr hlt hes
        go_upto_region 39 with (fail)
        obtain ⟨B, hB⟩ : ∃ B : Bool, B = decide (s < m ∧ m < e) := ⟨_, rfl⟩
        have HBB := Lib.hid hB
        clear hB
        go_cut [185] from 178 to 185 (fun bv wx => bv = .bool B ∧ wx = wr)
        case first =>
          by_cases hg1 : s < m
          · have q1 : decide ((s : Int) < (m : Int)) = true := decide_eq_true (by omega)
            have q1' : decide (s < m) = true := decide_eq_true hg1
            by_cases hg2 : m < e
            · have q2 : decide ((m : Int) < (e : Int)) = true := decide_eq_true (by omega)
              have q2' : decide (m < e) = true := decide_eq_true hg2
              go_wp2_with fail
              go_meet
              exact ⟨by rw [HBB.out, decide_eq_true ⟨hg1, hg2⟩], rfl⟩
            · have q2 : decide ((m : Int) < (e : Int)) = false := decide_eq_false (by omega)
              have q2' : decide (m < e) = false := decide_eq_false (by omega)
              go_wp2_with fail
              go_meet
              exact ⟨by rw [HBB.out, decide_eq_false (fun e => hg2 e.2)], rfl⟩
          · have q1 : decide ((s : Int) < (m : Int)) = false := decide_eq_false (by omega)
            have q1' : decide (s < m) = false := decide_eq_false (by omega)
            go_wp2_with fail
            go_meet
            exact ⟨by rw [HBB.out, decide_eq_false (fun e => hg1 e.1)], rfl⟩
        case rest =>
          obtain ⟨rfl, rfl⟩ := hcut
          go_upto_if 185 with (fail)
          go_cut [] from 178 to 191 (fun wx => Arr wx g cap (X ++ (u1 ++ (v1 ++ (u2 ++ (v2 ++ Y))))) ∧ Fr (fun k => k = g) w wx)
          case first =>
            by_cases hrot : s < m ∧ m < e
            · have HROT := Lib.hid (rotate_any wc g cap N s m e (X ++ u1) u2 v1 (v2 ++ Y) (by have hA0 := HA0.out; rw [HP.out.u, HP.out.v] at hA0; simpa using hA0) (by have := HNl.out; simp; omega) (by have := hXa.out; have := HL.out.1; simp; omega) HL.out.2.1 HL.out.2.2.1 hrot.1 hrot.2 hl)
              have q : B = true := HBB.out.trans (decide_eq_true hrot)
              subst q
              go_wp2_with fail
              refine HROT.out.mono ?_
              rintro e' w2 ⟨rfl, ha2, hf2⟩
              have HA := Lib.hid (And.intro ha2 hf2)
              clear ha2 hf2
              go_wp2_with fail
              go_meet
              exact ⟨by have := HA.out.1; simpa using this, HF0.out.trans HA.out.2 fun _ _ e => e⟩
            · have HST := Lib.hid (HP.out.still hrot X Y)
              have q : B = false := HBB.out.trans (decide_eq_false hrot)
              subst q
              clear hrot
              go_wp2_with fail
              go_meet
              exact ⟨by rw [← HST.out]; exact HA0.out, HF0.out⟩
          case rest =>
            obtain ⟨ha2, hf2⟩ := hcut
            have HA := Lib.hid (And.intro ha2 hf2)
            clear ha2 hf2 HA0 HF0
            go_upto_region 41 with (fail)
            obtain ⟨B, hB⟩ : ∃ B : Bool, B = decide (a < s ∧ s < mid) := ⟨_, rfl⟩
            have HBB := Lib.hid hB
            clear hB
            go_cut [199] from 192 to 199 (fun bv wx => bv = .bool B ∧ wx = wc)
            case first =>
              by_cases hg1 : a < s
              · have q1 : decide ((a : Int) < (s : Int)) = true := decide_eq_true (by omega)
                have q1' : decide (a < s) = true := decide_eq_true hg1
                by_cases hg2 : s < mid
                · have q2 : decide ((s : Int) < (mid : Int)) = true := decide_eq_true (by omega)
                  have q2' : decide (s < mid) = true := decide_eq_true hg2
                  go_wp2_with fail
                  go_meet
                  exact ⟨by rw [HBB.out, decide_eq_true ⟨hg1, hg2⟩], rfl⟩
                · have q2 : decide ((s : Int) < (mid : Int)) = false := decide_eq_false (by omega)
                  have q2' : decide (s < mid) = false := decide_eq_false (by omega)
                  go_wp2_with fail
                  go_meet
                  exact ⟨by rw [HBB.out, decide_eq_false (fun e => hg2 e.2)], rfl⟩
              · have q1 : decide ((a : Int) < (s : Int)) = false := decide_eq_false (by omega)
                have q1' : decide (a < s) = false := decide_eq_false (by omega)
                go_wp2_with fail
                go_meet
                exact ⟨by rw [HBB.out, decide_eq_false (fun e => hg1 e.1)], rfl⟩
            case rest =>
              obtain ⟨rfl, rfl⟩ := hcut
              go_upto_if 199 with (fail)
              go_cut [] from 192 to 205 (fun wx => ∃ s1, Arr wx g cap (X ++ (s1 ++ (u2 ++ (v2 ++ Y)))) ∧ Fr (fun k => k = g) w wx ∧ Up Chg.key s1 ∧ Alike Chg.key (u1 ++ v1) s1 ∧ s1.length = (u1 ++ v1).length)
              case first =>
                by_cases hlf : a < s ∧ s < mid
                · have HLC := Lib.hid (HIH.out wc g cap N a s mid X u1 v1 (u2 ++ (v2 ++ Y)) HA.out.1 (by have := HNl.out; simp; omega) hXa.out HL.out.1 (by have := HL.out.2.1; have := HL.out.2.2.1; have := HP.out.sum; omega) hlf.1 hlf.2 (by have := HDD.out; omega) hl (up_append.1 (HP.out.u ▸ HU.out.1)).1 (up_append.1 (HP.out.v ▸ HU.out.2)).1)
                  have q : B = true := HBB.out.trans (decide_eq_true hlf)
                  subst q
                  go_wp2_with fail
                  refine HLC.out.mono ?_
                  rintro e' w3 ⟨s1, ⟨rfl, ha3, hf3⟩, hu3, hal3, hle3⟩
                  have HB := Lib.hid (And.intro ha3 (And.intro hf3 (And.intro hu3 (And.intro hal3 hle3))))
                  clear ha3 hf3 hu3 hal3 hle3 HLC
                  go_wp2_with fail
                  go_meet
                  obtain ⟨ha3, hf3, hu3, hal3, hle3⟩ := HB.out
                  exact ⟨s1, ha3, HA.out.2.trans hf3 fun _ _ e => e, hu3, hal3, hle3⟩
                · have q : B = false := HBB.out.trans (decide_eq_false hlf)
                  subst q
                  have HR0 := Lib.hid (HP.out.left HU.out.1 HU.out.2 hlf)
                  clear hlf
                  go_wp2_with fail
                  go_meet
                  exact ⟨u1 ++ v1, by rw [List.append_assoc]; exact HA.out.1, HA.out.2, HR0.out, Alike.refl _, rfl⟩
              case rest =>
                obtain ⟨s1, ha3, hf3, hu3, hal3, hle3⟩ := hcut
                have HB := Lib.hid (And.intro ha3 (And.intro hf3 (And.intro hu3 (And.intro hal3 hle3))))
                clear ha3 hf3 hu3 hal3 hle3 HA
                go_upto_region 43 with (fail)
                obtain ⟨B, hB⟩ : ∃ B : Bool, B = decide (mid < e ∧ e < b) := ⟨_, rfl⟩
                have HBB := Lib.hid hB
                clear hB
                go_cut [213] from 206 to 213 (fun bv wx => bv = .bool B ∧ wx = wc)
                case first =>
                  by_cases hg1 : mid < e
                  · have q1 : decide ((mid : Int) < (e : Int)) = true := decide_eq_true (by omega)
                    have q1' : decide (mid < e) = true := decide_eq_true hg1
                    by_cases hg2 : e < b
                    · have q2 : decide ((e : Int) < (b : Int)) = true := decide_eq_true (by omega)
                      have q2' : decide (e < b) = true := decide_eq_true hg2
                      go_wp2_with fail
                      go_meet
                      exact ⟨by rw [HBB.out, decide_eq_true ⟨hg1, hg2⟩], rfl⟩
                    · have q2 : decide ((e : Int) < (b : Int)) = false := decide_eq_false (by omega)
                      have q2' : decide (e < b) = false := decide_eq_false (by omega)
                      go_wp2_with fail
                      go_meet
                      exact ⟨by rw [HBB.out, decide_eq_false (fun e => hg2 e.2)], rfl⟩
                  · have q1 : decide ((mid : Int) < (e : Int)) = false := decide_eq_false (by omega)
                    have q1' : decide (mid < e) = false := decide_eq_false (by omega)
                    go_wp2_with fail
                    go_meet
                    exact ⟨by rw [HBB.out, decide_eq_false (fun e => hg1 e.1)], rfl⟩
                case rest =>
                  obtain ⟨rfl, rfl⟩ := hcut
                  by_cases hri : mid < e ∧ e < b
                  · have HRC := Lib.hid (HIH.out wc g cap N mid e b (X ++ s1) u2 v2 Y (by have := HB.out.1; simpa using this) (by have := HNl.out; have hb := HB.out.2.2.2.2; simp at hb; simp; omega) (by have := hXa.out; have hb := HB.out.2.2.2.2; have := HL.out; have := HP.out.sum; simp at hb; simp; omega) (by have := HL.out; have := HP.out.sum; omega) HL.out.2.2.2 hri.1 hri.2 (by have := HDD.out; omega) hl (up_append.1 (HP.out.u ▸ HU.out.1)).2.1 (up_append.1 (HP.out.v ▸ HU.out.2)).2.1)
                    have q : B = true := HBB.out.trans (decide_eq_true hri)
                    subst q
                    go_wp2_with fail
                    refine HRC.out.mono ?_
                    rintro e' w4 ⟨s2, ⟨rfl, ha4, hf4⟩, hu4, hal4, hle4⟩
                    have HD := Lib.hid (And.intro ha4 (And.intro hf4 (And.intro hu4 (And.intro hal4 hle4))))
                    clear ha4 hf4 hu4 hal4 hle4 HRC
                    go_wp2_with fail
                    go_end0
                    obtain ⟨ha4, hf4, hu4, hal4, hle4⟩ := HD.out
                    obtain ⟨ha3, hf3, hu3, hal3, hle3⟩ := HB.out
                    exact HP.out.done HU.out.1 HU.out.2 hu3 hal3 hle3 hu4 hal4 hle4 (by simpa using ha4) (hf3.trans hf4 fun _ _ e => e)
                  · have HR0 := Lib.hid (HP.out.right HU.out.1 HU.out.2 hri)
                    have q : B = false := HBB.out.trans (decide_eq_false hri)
                    subst q
                    clear hri
                    go_wp2_with fail
                    go_end0
                    obtain ⟨ha3, hf3, hu3, hal3, hle3⟩ := HB.out
                    exact HP.out.done HU.out.1 HU.out.2 hu3 hal3 hle3 HR0.out (Alike.refl _) rfl (by simpa using ha3) hf3
theorem merge_any : ∀ d, Merges d
  | 0 => fun w g cap N a m b X u v Y h hN hX hu hv h1 h2 hd => by omega
  | d + 1 => fun w g cap N a m b X u v Y h hN hX hul hvl h1 h2 hd hl hu hv => by
    by_cases hm : m = a + 1
    · obtain ⟨x, u', rfl⟩ := cons_of (show 0 < u.length by omega)
      obtain rfl : u' = [] := List.length_eq_zero_iff.1 (by simp at hul; omega)
      exact merge_one_left w g cap N a m b X x v Y h hN hX hm.symm hvl h2 hl hv
    · by_cases hb : b = m + 1
      · obtain ⟨x, v', rfl⟩ := cons_of (show 0 < v.length by omega)
        obtain rfl : v' = [] := List.length_eq_zero_iff.1 (by simp at hvl; omega)
        exact merge_one_right w g cap N a m b X u x Y h hN hX hul hb.symm (by omega) hl hu
      · exact merge_step d (merge_any d) w g cap N a m b X u v Y h hN hX hul hvl (by omega) (by omega) hd hl hu hv
end Go.Proofs.YtghpohiinnallaaGreatDoor.Kv

/-
  Walks of the stable sort: blocks sorted by insertion, then merged, twice as long each time.
-/
namespace Go.Proofs.YtghpohiinnallaaGreatDoor.Kv
open Go Go.RowKit
open Go.Proofs.YtghpohiinnallaaGreatDoor.Batch

/-- Sorted whole. -/
def SortedAll (w : World) (g cap : Nat) (L : List Chg) (e : Ending) (w' : World) : Prop := ∃ L', Turned w g cap L' e w' ∧ Up Chg.key L' ∧ Alike Chg.key L L' ∧ L'.length = L.length
/-- The first loop: blocks of twenty. -/
structure Blocks (w : World) (g cap bs : Nat) (L : List Chg) (c : Nat) (P R : List Chg) (wr : World) : Prop where
  arr : Arr wr g cap (P ++ R)
  fr : Fr (fun k => k = g) w wr
  len : P.length = c * bs
  alike : Alike Chg.key L (P ++ R)
  length : (P ++ R).length = L.length
theorem up_bl {bs : Nat} {s : List Chg} (hs : s.length = bs) (h : Up Chg.key s) : Bl Chg.key bs s := bl_small (by omega) h
theorem alike_mid {P s s' R : List Chg} (h : Alike Chg.key s s') : Alike Chg.key (P ++ (s ++ R)) (P ++ (s' ++ R)) := (Alike.refl P).append (h.append (Alike.refl R))

set_option maxRecDepth 100000 in
set_option maxHeartbeats 4000000 in
theorem stable_any (w : World) (g cap N : Nat) (L : List Chg) (h : Arr w g cap L) (hN : L.length = N) (hl : N ≤ 100000) :
    Calls Tryz.prog 126 #[.slice (some ⟨g, 0, none⟩) N cap, .int .i64 N, cmpV] w (SortedAll w g cap L) := by
  have HN := Lib.hid hN
  have HA := Lib.hid h
  clear hN h
  go_enter Tryz.func126, Tryz.ntmps126
  go_wp2_with fail
  go_loopw [7, 8] (fun av bv wr => ∃ (a b c : Nat) (P R : List Chg), av = .int .i64 a ∧ bv = .int .i64 b ∧ b = a + 20 ∧ a = c * 20 ∧ a ≤ N ∧ Blocks w g cap 20 L c P R wr ∧ Bl Chg.key 20 P) (fun _ b _ => N + 100 - (intOf b).toNat)
  case atStart => exact ⟨0, 20, 0, [], L, rfl, rfl, rfl, rfl, Nat.zero_le _, ⟨HA.out, Fr.refl _ _, rfl, Alike.refl _, rfl⟩, bl_nil 20⟩
  case round =>
    obtain ⟨a, b, c, P, R, rfl, rfl, hb, ha, haN, hB, hbl⟩ := hrel
    have hR : a + R.length = N := by
      have h1 := hB.length
      rw [List.length_append, HN.out, hB.len] at h1
      omega
    by_cases hlt : b ≤ N
    · obtain ⟨s, R2, hs, hsl⟩ := split_at R (n := 20) (by omega)
      have hins := insertion_any wr g cap N a b P s R2 (by rw [← hs]; exact hB.arr) (by rw [← hs, hB.length]; exact HN.out) (by rw [hB.len]; omega) (by omega) hl
      have HI := Lib.hid hins
      have HS := Lib.hid (And.intro hB (And.intro hbl (And.intro hs (And.intro hsl (And.intro hb (And.intro ha hR))))))
      have hle : decide ((b : Int) ≤ (N : Int)) = true := decide_eq_true (by omega)
      have hle2 : decide (b ≤ N) = true := decide_eq_true hlt
      clear hB hbl hs hsl hins hb ha hR
      go_wp2_with fail
      refine HI.out.mono ?_
      rintro e w2 ⟨s', ⟨rfl, ha2, hf2⟩, hup, hal, hll⟩
      have HW := Lib.hid (And.intro ha2 (And.intro hf2 (And.intro hup (And.intro hal hll))))
      clear ha2 hf2 hup hal hll
      go_wp2_with fail
      go_roundw
      case rel =>
        obtain ⟨hB, hbl, hs, hsl, hb, ha, hR⟩ := HS.out
        obtain ⟨ha2, hf2, hup, hal, hll⟩ := HW.out
        refine ⟨b, b + 20, c + 1, P ++ s', R2, rfl, by simp, rfl, by omega, hlt, ⟨by simpa using ha2, hB.fr.trans hf2 fun _ _ e => e, by rw [List.length_append, hB.len, hll, hsl]; omega, ?_, ?_⟩, ?_⟩
        · refine hB.alike.trans ?_
          rw [hs, List.append_assoc]
          exact alike_mid hal
        · rw [← hB.length, hs]; simp [hll]
        · exact bl_append hB.len hbl (up_bl (by omega) hup)
      case measure => simp [intOf]; omega
    · have hins := insertion_any wr g cap N a N P R [] (by simpa using hB.arr) (by have h1 := hB.length; rw [HN.out] at h1; simpa using h1) (by rw [hB.len]; omega) (by omega) hl
      have HI := Lib.hid hins
      have HS := Lib.hid (And.intro hB (And.intro hbl (And.intro ha hR)))
      have hle : decide ((b : Int) ≤ (N : Int)) = false := decide_eq_false (by omega)
      have hle2 : decide (b ≤ N) = false := decide_eq_false hlt
      have hbb : a + 20 = b := hb.symm
      have HBB := Lib.hid hbb
      clear hB hbl hins ha hR hb hbb
      go_wp2_with fail
      refine HI.out.mono ?_
      rintro e w2 ⟨s', ⟨rfl, ha2, hf2⟩, hup, hal, hll⟩
      have HW : Hid (∃ L1, Arr w2 g cap L1 ∧ Fr (fun k => k = g) w w2 ∧ Bl Chg.key 20 L1 ∧ Alike Chg.key L L1 ∧ L1.length = N) := by
        obtain ⟨hB, hbl, ha, hR⟩ := HS.out
        refine ⟨P ++ s', by simpa using ha2, hB.fr.trans hf2 fun _ _ e => e, bl_append hB.len hbl (bl_small (by have := HBB.out; omega) hup), ?_, ?_⟩
        · refine hB.alike.trans ?_
          exact (Alike.refl P).append hal
        · have h1 := hB.length
          rw [HN.out, List.length_append] at h1
          rw [List.length_append, hll]
          exact h1
      clear ha2 hf2 hup hal hll
      go_wp2_with fail
      clear HS HI hle hle2
      obtain ⟨w3, hw3⟩ : ∃ w3, w3 = wr := ⟨_, rfl⟩
      clear hw3
      go_loopw [6, 7, 8, 9] (fun sv av bv mv wx => ∃ (bs : Nat) (L1 : List Chg), sv = .int .i64 bs ∧ 20 ≤ bs ∧ bs ≤ 200000 ∧ Arr wx g cap L1 ∧ Fr (fun k => k = g) w wx ∧ Bl Chg.key bs L1 ∧ Alike Chg.key L L1 ∧ L1.length = N) (fun s _ _ _ _ => 400000 - (intOf s).toNat)
      case atStart =>
        obtain ⟨L1, a1, a2, a3, a4, a5⟩ := HW.out
        exact ⟨20, L1, rfl, Nat.le_refl _, by omega, a1, a2, a3, a4, a5⟩
      case round =>
        obtain ⟨bs, L1, rfl, hbs1, hbs2, a1, a2, a3, a4, a5⟩ := hrel
        by_cases hlt2 : bs < N
        · have HL := Lib.hid (And.intro a1 (And.intro a2 (And.intro a3 (And.intro a4 a5))))
          clear a1 a2 a3 a4 a5
          obtain ⟨D, hD, hD2⟩ : ∃ D : Nat, D = 2 * bs ∧ (2 : Int) * (bs : Int) = (D : Int) := ⟨2 * bs, rfl, by omega⟩
          have HD := Lib.hid hD
          have hD3 : (bs : Int) * 2 = (D : Int) := by omega
          have hDb : D ≤ 200000 := by omega
          have hDl : 40 ≤ D := by omega
          have hDs : bs < D := by omega
          clear hD
          go_wp2_with fail
          obtain ⟨wo, hwo⟩ : ∃ wo, wo = wr := ⟨_, rfl⟩
          rw [← hwo] at HL
          go_loopw [7, 8] (fun av bv wy => ∃ (a b c : Nat) (P R : List Chg), av = .int .i64 a ∧ bv = .int .i64 b ∧ b = a + D ∧ a = c * D ∧ a ≤ N ∧ Blocks w g cap D L c P R wy ∧ Bl Chg.key D P ∧ Bl Chg.key bs R) (fun _ b _ => N + 200000 - (intOf b).toNat)
          case atStart =>
            obtain ⟨a1, a2, a3, a4, a5⟩ := HL.out
            exact ⟨0, D, 0, [], L1, rfl, rfl, by omega, by omega, Nat.zero_le _, ⟨by rw [← hwo]; exact a1, by rw [← hwo]; exact a2, by simp, a4, by rw [List.nil_append, a5]; exact HN.out.symm⟩, bl_nil D, a3⟩
          case round =>
            obtain ⟨a, b, c, P, R, rfl, rfl, hb, ha, haN, hB, hbl, hbr⟩ := hrel
            have hR : a + R.length = N := by
              have h1 := hB.length
              rw [List.length_append, HN.out, hB.len] at h1
              omega
            have hD := HD.out
            have em : (a : Int) + (bs : Int) = ((a + bs : Nat) : Int) := by omega
            obtain ⟨m, hm⟩ : ∃ m, m = a + bs := ⟨_, rfl⟩
            rw [← hm] at em
            by_cases hlt3 : b ≤ N
            · obtain ⟨s1, R2, hs, hsl⟩ := split_at R (n := bs) (by omega)
              have hR2 : bs + R2.length = R.length := by rw [hs, List.length_append, hsl]
              obtain ⟨s2, R3, hs2, hsl2⟩ := split_at R2 (n := bs) (by omega)
              have hu1 : Up Chg.key s1 := bl_head (bs := bs) (by omega) (by rw [hs] at hbr; exact hbr)
              have hbr2 : Bl Chg.key bs R2 := bl_tail (c := 1) (l := s1) (by omega) (by rw [← hs]; exact hbr)
              have hu2 : Up Chg.key s2 := bl_head (bs := bs) (by omega) (by rw [hs2] at hbr2; exact hbr2)
              have hbr3 : Bl Chg.key bs R3 := bl_tail (c := 1) (l := s2) (by omega) (by rw [← hs2]; exact hbr2)
              have hPR : P ++ R = P ++ (s1 ++ (s2 ++ R3)) := by rw [hs, hs2]
              have hins := merge_any D wr g cap N a m b P s1 s2 R3 (by rw [← hPR]; exact hB.arr) (by rw [← hPR, hB.length]; exact HN.out) (by rw [hB.len]; omega) (by omega) (by omega) (by omega) (by omega) (by omega) hl hu1 hu2
              have HI := Lib.hid hins
              have HS := Lib.hid (And.intro hB (And.intro hbl (And.intro hPR (And.intro hsl (And.intro hsl2 (And.intro hb (And.intro ha (And.intro hR (And.intro hbr3 hD)))))))))
              have hle : decide ((b : Int) ≤ (N : Int)) = true := decide_eq_true (by omega)
              have hle2 : decide (b ≤ N) = true := decide_eq_true hlt3
              have eb : (b : Int) + (D : Int) = ((b + D : Nat) : Int) := by omega
              obtain ⟨b2, hb2⟩ : ∃ b2, b2 = b + D := ⟨_, rfl⟩
              rw [← hb2] at eb
              have HB2 := Lib.hid (And.intro hb2 hm)
              clear hB hbl hs hsl hs2 hsl2 hins hb ha hR hbr hbr2 hbr3 hu1 hu2 hPR hD hR2 hb2 hm
              go_wp2_with fail
              refine HI.out.mono ?_
              rintro e w2 ⟨s', ⟨rfl, ha2, hf2⟩, hup, hal, hll⟩
              have HW := Lib.hid (And.intro ha2 (And.intro hf2 (And.intro hup (And.intro hal hll))))
              clear ha2 hf2 hup hal hll
              go_wp2_with fail
              go_roundw
              case rel =>
                obtain ⟨hB, hbl, hPR, hsl, hsl2, hb, ha, hR, hbr3, hD⟩ := HS.out
                obtain ⟨ha2, hf2, hup, hal, hll⟩ := HW.out
                have hsl3 : s'.length = D := by rw [hll, List.length_append]; omega
                refine ⟨b, b2, c + 1, P ++ s', R3, rfl, rfl, HB2.out.1, by rw [hb, ha, Nat.succ_mul], hlt3, ⟨by simpa using ha2, hB.fr.trans hf2 fun _ _ e => e, by rw [List.length_append, hB.len, hsl3, Nat.succ_mul], ?_, ?_⟩, ?_, hbr3⟩
                · refine hB.alike.trans ?_
                  rw [hPR, List.append_assoc, ← List.append_assoc s1]
                  exact alike_mid hal
                · rw [← hB.length, hPR]; simp [hll]; omega
                · exact bl_append hB.len hbl (up_bl hsl3 hup)
              case measure => have := HB2.out.1; simp [intOf]; omega
            · have hle : decide ((b : Int) ≤ (N : Int)) = false := decide_eq_false (by omega)
              have hle2 : decide (b ≤ N) = false := decide_eq_false hlt3
              by_cases hmN : m < N
              · obtain ⟨s1, s2, hs, hsl⟩ := split_at R (n := bs) (by omega)
                have hR2 : bs + s2.length = R.length := by rw [hs, List.length_append, hsl]
                have hu1 : Up Chg.key s1 := bl_head (bs := bs) (by omega) (by rw [hs] at hbr; exact hbr)
                have hbr2 : Bl Chg.key bs s2 := bl_tail (c := 1) (l := s1) (by omega) (by rw [← hs]; exact hbr)
                have hu2 : Up Chg.key s2 := bl_up (by omega) hbr2
                have hPR : P ++ R = P ++ (s1 ++ (s2 ++ [])) := by rw [hs]; simp
                have hins := merge_any N wr g cap N a m N P s1 s2 [] (by rw [← hPR]; exact hB.arr) (by rw [← hPR, hB.length]; exact HN.out) (by rw [hB.len]; omega) (by omega) (by omega) (by omega) hmN (by omega) hl hu1 hu2
                have HI := Lib.hid hins
                have HS := Lib.hid (And.intro hB (And.intro hbl (And.intro hPR (And.intro hsl (And.intro hR2 (And.intro hb (And.intro ha (And.intro hR hD))))))))
                have hmi : decide ((m : Int) < (N : Int)) = true := decide_eq_true (by omega)
                have hmi2 : decide (m < N) = true := decide_eq_true hmN
                clear hB hbl hs hsl hins hb ha hR hbr hbr2 hu1 hu2 hPR hD hR2 hm
                go_wp2_with fail
                refine HI.out.mono ?_
                rintro e w2 ⟨s', ⟨rfl, ha2, hf2⟩, hup, hal, hll⟩
                have HW2 := Lib.hid (And.intro ha2 (And.intro hf2 (And.intro hup (And.intro hal hll))))
                clear ha2 hf2 hup hal hll
                go_wp2_with fail
                go_roundw
                case rel =>
                  obtain ⟨hB, hbl, hPR, hsl, hR2, hb, ha, hR, hD⟩ := HS.out
                  obtain ⟨ha2, hf2, hup, hal, hll⟩ := HW2.out
                  rw [List.length_append] at hll
                  refine ⟨D, P ++ s', rfl, by omega, hDb, by simpa using ha2, hB.fr.trans hf2 fun _ _ e => e, bl_append hB.len hbl (bl_small (by omega) hup), ?_, ?_⟩
                  · refine hB.alike.trans ?_
                    rw [hPR]
                    simpa using alike_mid (P := P) (R := []) hal
                  · have := hB.len
                    rw [List.length_append]
                    omega
                case measure => simp [intOf]; omega
              · have hu : Up Chg.key R := bl_up (by omega) hbr
                have HS := Lib.hid (And.intro hB (And.intro hbl (And.intro hu (And.intro hb (And.intro ha (And.intro hR (And.intro hD hm)))))))
                have hmi : decide ((m : Int) < (N : Int)) = false := decide_eq_false (by omega)
                have hmi2 : decide (m < N) = false := decide_eq_false hmN
                clear hB hbl hb ha hR hbr hu hD hm
                go_wp2_with fail
                go_roundw
                case rel =>
                  obtain ⟨hB, hbl, hu, hb, ha, hR, hD, hm⟩ := HS.out
                  refine ⟨D, P ++ R, rfl, by omega, hDb, hB.arr, hB.fr, bl_append hB.len hbl (bl_small (by omega) hu), hB.alike, ?_⟩
                  rw [hB.length]; exact HN.out
                case measure => simp [intOf]; omega
        · have HL := Lib.hid (And.intro a1 (And.intro a2 (And.intro (bl_up (by omega) a3) (And.intro a4 a5))))
          clear a1 a2 a3 a4 a5
          go_wp2_with fail
          go_end0
          obtain ⟨a1, a2, a3, a4, a5⟩ := HL.out
          exact ⟨L1, ⟨rfl, a1, a2⟩, a3, a4, by rw [a5]; exact HN.out.symm⟩

theorem sort_any (w : World) (g cap N : Nat) (L : List Chg) (h : Arr w g cap L) (hN : L.length = N) (hl : N ≤ 100000) :
    Calls Tryz.prog 88 #[.slice (some ⟨g, 0, none⟩) N cap, cmpV] w (SortedAll w g cap L) := by
  have HS := Lib.hid (stable_any w g cap N L h hN hl)
  clear h hN
  go_enter Tryz.func88, Tryz.ntmps88
  go_wp2_with fail
  refine HS.out.mono ?_
  rintro e w2 ⟨L', ⟨rfl, h1, h2⟩, h3, h4, h5⟩
  have HW := Lib.hid (And.intro h1 (And.intro h2 (And.intro h3 (And.intro h4 h5))))
  clear h1 h2 h3 h4 h5
  go_wp2_with fail
  go_end0
  obtain ⟨h1, h2, h3, h4, h5⟩ := HW.out
  exact ⟨L', ⟨rfl, h1, h2⟩, h3, h4, h5⟩
end Go.Proofs.YtghpohiinnallaaGreatDoor.Kv
