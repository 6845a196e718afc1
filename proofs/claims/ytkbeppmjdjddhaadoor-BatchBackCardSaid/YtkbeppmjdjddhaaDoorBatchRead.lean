/-
  Walks of what reads a change: the program's changeOf and Read.
-/
import Derived.Test.YtkbeppmjdjddhaaDoorBatchWrite
import Derived.Test.YtkbeppmjdjddhaaDoorShaKept
namespace Go.Proofs.YtkbeppmjdjddhaaDoor.Batch
open Go Go.RowKit
open Go.Proofs.YtkbeppmjdjddhaaDoor.Nets (Tab Reads Small rowS textsS str)
open Go.Proofs.YtkbeppmjdjddhaaDoor.Sha (wp_region_drawn_tail)

def toldC (o : Option Chg) : Chg := match o with | some c => c | none => Chg.none
theorem change_far {ss : List ByteArray} (h2 : ss.length ≠ 2) (h3 : ss.length ≠ 3) : changeS ss = none := by
  match ss with
  | [] => rfl
  | [_] => rfl
  | [_, _] => simp at h2
  | [_, _, _] => simp at h3
  | _ :: _ :: _ :: _ :: _ => rfl
theorem eq_minus (t : ByteArray) : (t.toList == [45]) = decide (t = ⟨#[45]⟩) := by
  have e : (⟨#[45]⟩ : ByteArray).toList = [45] := by rw [Lib.toList_data]
  have h := bytes_eq t ⟨#[45]⟩
  rw [e] at h
  exact h
theorem eq_plus (t : ByteArray) : (t.toList == [43]) = decide (t = ⟨#[43]⟩) := by
  have e : (⟨#[43]⟩ : ByteArray).toList = [43] := by rw [Lib.toList_data]
  have h := bytes_eq t ⟨#[43]⟩
  rw [e] at h
  exact h
theorem last_box (t : TypeId) (w : World) (c : Chg) : Below w.heap.size w (w.alloc (boxC t c)) := (Below.refl _ _).alloc (Nat.le_refl _) _
theorem Lies.drewN {w : World} {b : Nat} {cs : Array Value} {t : TypeId} (h : Lies w b cs t) (n : Nat) : Lies (w.drewN n) b cs t := h.same ((below_drewN (Below.refl _ w) n).block _ h.lt)
set_option maxHeartbeats 1000000 in
theorem changeOf_far (a : Option Addr) (n cap : Nat) (w : World) (h2 : n ≠ 2) (h3 : n ≠ 3) :
    Calls Tryd.prog 34 #[.slice a n cap] w fun e w' => e = .returned (.tuple #[chV Chg.none, .bool false]) ∧ Below w.heap.size w w' := by
  have d2 : ((n : Int) == 2) = false := by simp; omega
  have d3 : ((n : Int) == 3) = false := by simp; omega
  clear h2 h3
  go_enter Tryd.func34, Tryd.ntmps34
  go_wp2_with fail
  refine bodyPost_ret (results_two Tryd.results34 _ _ w.heap.size _ rfl (load_chg _ _ chgT _ rfl (heap_alloc_new _ _))) rfl ?_
  exact ⟨rfl, last_box chgT w Chg.none⟩
set_option maxHeartbeats 2000000 in
theorem changeOf_two (b off cap : Nat) (t k : ByteArray) (w : World) (c0 : w.cell? ⟨b, off, none⟩ = some (.string t)) (c1 : w.cell? ⟨b, off + 1, none⟩ = some (.string k)) (hb : b < w.heap.size) :
    Calls Tryd.prog 34 #[.slice (some ⟨b, off, none⟩) 2 cap] w fun e w' => e = .returned (.tuple #[chV (toldC (changeS [t, k])), .bool (changeS [t, k]).isSome]) ∧ Below w.heap.size w w' := by
  have hd := eq_minus t
  have hlt : b ≠ w.heap.size := by omega
  by_cases ht : t = ⟨#[45]⟩
  · have e1 : changeS [t, k] = some ⟨k, ⟨#[]⟩, true⟩ := by simp [changeS, ht]
    rw [e1]
    rw [decide_eq_true ht] at hd
    clear e1 ht
    go_enter Tryd.func34, Tryd.ntmps34
    go_wp2_with fail
    refine bodyPost_ret (results_two Tryd.results34 _ _ w.heap.size _ rfl (load_chg _ _ chgT _ rfl (heap_alloc_new _ _))) rfl ?_
    exact ⟨rfl, last_box chgT w ⟨k, ⟨#[]⟩, true⟩⟩
  · have e1 : changeS [t, k] = none := by simp [changeS, ht]
    rw [e1]
    rw [decide_eq_false ht] at hd
    clear e1 ht
    go_enter Tryd.func34, Tryd.ntmps34
    go_wp2_with fail
    refine bodyPost_ret (results_two Tryd.results34 _ _ w.heap.size _ rfl (load_chg _ _ chgT _ rfl (heap_alloc_new _ _))) rfl ?_
    exact ⟨rfl, last_box chgT w Chg.none⟩
set_option maxHeartbeats 2000000 in
theorem changeOf_three (b off cap : Nat) (t k v : ByteArray) (w : World) (c0 : w.cell? ⟨b, off, none⟩ = some (.string t)) (c1 : w.cell? ⟨b, off + 1, none⟩ = some (.string k)) (c2 : w.cell? ⟨b, off + 2, none⟩ = some (.string v)) (hb : b < w.heap.size) :
    Calls Tryd.prog 34 #[.slice (some ⟨b, off, none⟩) 3 cap] w fun e w' => e = .returned (.tuple #[chV (toldC (changeS [t, k, v])), .bool (changeS [t, k, v]).isSome]) ∧ Below w.heap.size w w' := by
  have hd := eq_plus t
  have hlt : b ≠ w.heap.size := by omega
  by_cases ht : t = ⟨#[43]⟩
  · have e1 : changeS [t, k, v] = some ⟨k, v, false⟩ := by simp [changeS, ht]
    rw [e1]
    rw [decide_eq_true ht] at hd
    clear e1 ht
    go_enter Tryd.func34, Tryd.ntmps34
    go_wp2_with fail
    refine wp_region_drawn_tail 7 (by kernel_rfl) (by kernel_rfl) ?_
    simp only [List.take_succ_cons, List.take_zero, List.drop_succ_cons, List.drop_zero]
    repeat (go_big_quiet_step (fail))
    refine wpQuiet_nil ?_
    rintro _ ⟨nq, rfl⟩
    go_wp2_with fail
    have hL : Lies ((w.alloc (boxC chgT Chg.none)).drewN nq) w.heap.size #[.string ⟨#[]⟩, .string ⟨#[]⟩, .bool false] chgT := (Lies.new w #[.string ⟨#[]⟩, .string ⟨#[]⟩, .bool false] chgT).drewN nq
    refine bodyPost_ret (results_two Tryd.results34 _ _ w.heap.size _ rfl (load_chg _ _ chgT _ rfl (((hL.set 0 (.string k)).set 1 (.string v)).set 2 (.bool false)))) rfl ?_
    exact ⟨rfl, set3 (below_drewN (last_box chgT w Chg.none) nq)⟩
  · have e1 : changeS [t, k, v] = none := by simp [changeS, ht]
    rw [e1]
    rw [decide_eq_false ht] at hd
    clear e1 ht
    go_enter Tryd.func34, Tryd.ntmps34
    go_wp2_with fail
    refine bodyPost_ret (results_two Tryd.results34 _ _ w.heap.size _ rfl (load_chg _ _ chgT _ rfl (heap_alloc_new _ _))) rfl ?_
    exact ⟨rfl, last_box chgT w Chg.none⟩
theorem changeOf_any (v : Value) (ss : List ByteArray) (w : World) (hr : Reads w v ss) :
    Calls Tryd.prog 34 #[v] w fun e w' => e = .returned (.tuple #[chV (toldC (changeS ss)), .bool (changeS ss).isSome]) ∧ Below w.heap.size w w' := by
  by_cases h2 : ss.length = 2
  · obtain ⟨b, off, cap, rfl, hb, hc⟩ := reads_at hr (by omega)
    match ss, h2 with
    | [t, k], _ => exact changeOf_two b off cap t k w (hc 0 (by simp)) (hc 1 (by simp)) hb
  · by_cases h3 : ss.length = 3
    · obtain ⟨b, off, cap, rfl, hb, hc⟩ := reads_at hr (by omega)
      match ss, h3 with
      | [t, k, v], _ => exact changeOf_three b off cap t k v w (hc 0 (by simp)) (hc 1 (by simp)) (hc 2 (by simp)) hb
    · rw [change_far h2 h3]
      obtain ⟨a, cap, rfl⟩ := Nets.Reads.form hr
      exact changeOf_far a ss.length cap w h2 h3

theorem put_part (l : List UInt8) : l.length ≤ (Nets.putS l).length := by unfold Nets.putS; simp; omega
theorem row_part : ∀ (ls : List (List UInt8)) (t : List UInt8), t ∈ ls → t.length ≤ (rowS ls).length
  | [], _, h => by cases h
  | x :: ls, t, h => by
    have e : rowS (x :: ls) = Nets.putS x ++ rowS ls := by simp [rowS]
    rw [e, List.length_append]
    rcases List.mem_cons.1 h with rfl | h
    · have := put_part t; omega
    · have := row_part ls t h; omega
theorem texts_part {l : List UInt8} (h : (textsS l).2 = 0) {s : ByteArray} (hs : s ∈ (textsS l).1.map ba) : s.size ≤ l.length := by
  obtain ⟨t, ht, rfl⟩ := List.mem_map.1 hs
  have h1 := row_part _ t ht
  rw [Nets.row_texts _ l (Nat.le_refl _) h] at h1
  simpa [ByteArray.size] using h1
theorem change_parts {ss : List ByteArray} {c : Chg} (h : changeS ss = some c) : (c.key ∈ ss) ∧ (c.val ∈ ss ∨ c.val = ⟨#[]⟩) := by
  match ss, h with
  | [t, k], h =>
    by_cases ht : t = ⟨#[45]⟩
    · simp [changeS, ht] at h
      rw [← h]; simp
    · simp [changeS, ht] at h
  | [t, k, v], h =>
    by_cases ht : t = ⟨#[43]⟩
    · simp [changeS, ht] at h
      rw [← h]; simp
    · simp [changeS, ht] at h
theorem change_fine {l : List UInt8} (h : (textsS l).2 = 0) (hl : l.length ≤ 100000) {c : Chg} (hc : changeS ((textsS l).1.map ba) = some c) : Fine c := by
  obtain ⟨h1, h2⟩ := change_parts hc
  refine ⟨Nat.le_trans (texts_part h h1) hl, ?_⟩
  rcases h2 with h2 | h2
  · exact Nat.le_trans (texts_part h h2) hl
  · rw [h2]; exact Nat.zero_le _

theorem texts_err (s : ByteArray) (n : Nat) (w : World) (hs : s.size ≤ 100000) (hn : (textsS (bl s)).2 = n) (h0 : n ≠ 0) :
    Calls Tryd.prog 33 #[.string s] w fun e w' => ∃ a cap, e = .returned (.tuple #[.slice a 0 cap, .int .i64 n]) ∧ Below w.heap.size w w' := by
  have hb := Nets.texts_bad _ (bl s) (Nat.le_refl _) (by rw [hn]; exact h0)
  refine (Nets.texts_any s w hs).mono ?_
  rintro e w' ⟨v, rfl, hr, hbl⟩
  rw [hb] at hr
  obtain ⟨a, cap, rfl⟩ := Nets.Reads.form hr
  exact ⟨a, cap, by rw [hn]; rfl, hbl⟩
theorem texts_fine (s : ByteArray) (ss : List ByteArray) (w : World) (hs : s.size ≤ 100000) (hn : (textsS (bl s)).2 = 0) (hss : (textsS (bl s)).1.map ba = ss) :
    Calls Tryd.prog 33 #[.string s] w fun e w' => ∃ a cap, e = .returned (.tuple #[.slice a ss.length cap, .int .i64 0]) ∧ Reads w' (.slice a ss.length cap) ss ∧ Below w.heap.size w w' := by
  refine (Nets.texts_any s w hs).mono ?_
  rintro e w' ⟨v, rfl, hr, hbl⟩
  have hr' : Reads w' v ss := hss ▸ hr
  obtain ⟨a, cap, rfl⟩ := Nets.Reads.form hr'
  exact ⟨a, cap, by rw [hn]; rfl, hr', hbl⟩
/-- What is told of a text. -/
def ReadPost (r : Chg × Nat) (w : World) (e : Ending) (w' : World) : Prop := e = .returned (.tuple #[chV r.1, .int .i64 (r.2 : Nat)]) ∧ Below w.heap.size w w'
theorem readS_err {l : List UInt8} {n : Nat} (hn : (textsS l).2 = n) (h0 : n ≠ 0) : readS l = (Chg.none, n) := by unfold readS; rw [hn, if_pos h0]
theorem readS_none {l : List UInt8} (hn : (textsS l).2 = 0) (hc : changeS ((textsS l).1.map ba) = none) : readS l = (Chg.none, 3) := by unfold readS; rw [if_neg (by simpa using hn), hc]
theorem readS_bad {l : List UInt8} {c : Chg} {n : Nat} (hn : (textsS l).2 = 0) (hc : changeS ((textsS l).1.map ba) = some c) (hk : chk c = n) (h0 : n ≠ 0) : readS l = (Chg.none, n) := by
  unfold readS; rw [if_neg (by simpa using hn), hc]; simp only [hk]; rw [if_pos h0]
theorem readS_good {l : List UInt8} {c : Chg} (hn : (textsS l).2 = 0) (hc : changeS ((textsS l).1.map ba) = some c) (hk : chk c = 0) : readS l = (c, 0) := by
  unfold readS; rw [if_neg (by simpa using hn), hc]; simp only [hk]; rfl
set_option maxHeartbeats 2000000 in
theorem read_err (s : ByteArray) (n : Nat) (w : World) (hs : s.size ≤ 100000) (hn : (textsS (bl s)).2 = n) (h0 : n ≠ 0) : Calls Tryd.prog 20 #[.string s] w (ReadPost (Chg.none, n) w) := by
  have HA := Lib.hid (last_box chgT w Chg.none)
  have HT := Lib.hid (fun W => texts_err s n W hs hn h0)
  have hne : ((n : Int) != 0) = true := by simpa using h0
  clear hs hn h0
  go_enter Tryd.func20, Tryd.ntmps20
  go_wp2_with fail
  refine (HT.out _).mono ?_
  rintro e w1 ⟨a, cap, rfl, hb1⟩
  have hb : Below (w.alloc (boxC chgT Chg.none)).heap.size (w.alloc (boxC chgT Chg.none)) w1 := hb1
  have HX : Hid (Lies w1 w.heap.size #[.string ⟨#[]⟩, .string ⟨#[]⟩, .bool false] chgT) := (hb.block _ (by simp)).trans (heap_alloc_new w _)
  have HB := Lib.hid (HA.out.trans (hb.mono HA.out.size))
  clear hb1 hb
  obtain ⟨x0, x1, x2, g0, g1, g2⟩ := lies3 HX.out
  go_wp2_with fail
  refine bodyPost_ret (results_two Tryd.results20 _ _ w.heap.size _ rfl (load_chg _ _ chgT _ rfl (((HX.out.set 0 _).set 1 _).set 2 _))) rfl ?_
  exact ⟨rfl, set3 HB.out⟩
set_option maxHeartbeats 2000000 in
theorem read_none (s : ByteArray) (w : World) (hs : s.size ≤ 100000) (hn : (textsS (bl s)).2 = 0) (hc : changeS ((textsS (bl s)).1.map ba) = none) : Calls Tryd.prog 20 #[.string s] w (ReadPost (Chg.none, 3) w) := by
  have HA := Lib.hid (last_box chgT w Chg.none)
  have HT := Lib.hid (fun W => texts_fine s _ W hs hn rfl)
  have HC := Lib.hid (fun v W hr => changeOf_any v ((textsS (bl s)).1.map ba) W hr)
  rw [hc] at HC
  generalize (textsS (bl s)).1.map ba = ss at *
  clear hs hn hc
  go_enter Tryd.func20, Tryd.ntmps20
  go_wp2_with fail
  refine (HT.out _).mono ?_
  rintro e w1 ⟨a, cap, rfl, hr1, hb1⟩
  have hb : Below (w.alloc (boxC chgT Chg.none)).heap.size (w.alloc (boxC chgT Chg.none)) w1 := hb1
  have HX : Hid (Lies w1 w.heap.size #[.string ⟨#[]⟩, .string ⟨#[]⟩, .bool false] chgT) := (hb.block _ (by simp)).trans (heap_alloc_new w _)
  have HB := Lib.hid (HA.out.trans (hb.mono HA.out.size))
  have HR := Lib.hid hr1
  clear hb1 hb hr1
  go_wp2_with fail
  refine (HC.out _ _ HR.out).mono ?_
  rintro e w2 ⟨rfl, hb2⟩
  have HX2 : Hid (Lies w2 w.heap.size #[.string ⟨#[]⟩, .string ⟨#[]⟩, .bool false] chgT) := HX.out.same (hb2.block _ HX.out.lt)
  have HB2 := Lib.hid (HB.out.trans (hb2.mono HB.out.size))
  clear hb2
  have hlt := HX2.out.lt
  obtain ⟨x0, x1, x2, g0, g1, g2⟩ := lies3 HX2.out
  have HX3 := Lib.hid (((HX2.out.set 0 (.string ⟨#[]⟩)).set 1 (.string ⟨#[]⟩)).set 2 (.bool false))
  have HB3 := Lib.hid (set3 (x := .string ⟨#[]⟩) (y := .string ⟨#[]⟩) (z := .bool false) HB2.out)
  go_wp2_with fail
  refine bodyPost_ret (results_two Tryd.results20 _ _ w.heap.size _ rfl (load_chg _ _ chgT _ rfl (HX3.out.same (Below.heap_alloc _ _ _ HX3.out.lt)))) rfl ?_
  exact ⟨rfl, HB3.out.alloc HB3.out.size _⟩
set_option maxHeartbeats 2000000 in
theorem read_some (s : ByteArray) (w : World) (hs : s.size ≤ 100000) (hn : (textsS (bl s)).2 = 0) (c : Chg) (hc : changeS ((textsS (bl s)).1.map ba) = some c) (n : Nat) (hk : chk c = n) :
    Calls Tryd.prog 20 #[.string s] w (ReadPost (if n = 0 then (c, 0) else (Chg.none, n)) w) := by
  have HA := Lib.hid (last_box chgT w Chg.none)
  have HT := Lib.hid (fun W => texts_fine s _ W hs hn rfl)
  have HC := Lib.hid (fun v W hr => changeOf_any v ((textsS (bl s)).1.map ba) W hr)
  have hf := change_fine hn (by simpa using hs) hc
  have HK := Lib.hid (fun W => check_any c W (by have := hf.1; omega) (by have := hf.2; omega) n hk)
  rw [hc] at HC
  generalize (textsS (bl s)).1.map ba = ss at *
  clear hs hn hc hk hf
  by_cases h0 : n = 0
  · subst h0
    rw [if_pos rfl]
    go_enter Tryd.func20, Tryd.ntmps20
    go_wp2_with fail
    refine (HT.out _).mono ?_
    rintro e w1 ⟨a, cap, rfl, hr1, hb1⟩
    have hb : Below (w.alloc (boxC chgT Chg.none)).heap.size (w.alloc (boxC chgT Chg.none)) w1 := hb1
    have HX : Hid (Lies w1 w.heap.size #[.string ⟨#[]⟩, .string ⟨#[]⟩, .bool false] chgT) := (hb.block _ (by simp)).trans (heap_alloc_new w _)
    have HB := Lib.hid (HA.out.trans (hb.mono HA.out.size))
    have HR := Lib.hid hr1
    clear hb1 hb hr1
    go_wp2_with fail
    refine (HC.out _ _ HR.out).mono ?_
    rintro e w2 ⟨rfl, hb2⟩
    have HX2 : Hid (Lies w2 w.heap.size #[.string ⟨#[]⟩, .string ⟨#[]⟩, .bool false] chgT) := HX.out.same (hb2.block _ HX.out.lt)
    have HB2 := Lib.hid (HB.out.trans (hb2.mono HB.out.size))
    clear hb2
    have HX3 := Lib.hid (HX2.out.same (Below.heap_alloc w2 (boxC chgT c) _ HX2.out.lt))
    have HB3 := Lib.hid (HB2.out.alloc HB2.out.size (boxC chgT c))
    go_wp2_with fail
    refine (HK.out _).mono ?_
    rintro e w4 ⟨rfl, hb4⟩
    have hb : Below (w2.alloc (boxC chgT c)).heap.size (w2.alloc (boxC chgT c)) w4 := hb4
    have HX4 : Hid (Lies w4 w.heap.size #[.string ⟨#[]⟩, .string ⟨#[]⟩, .bool false] chgT) := HX3.out.same (hb.block _ HX3.out.lt)
    have HB4 := Lib.hid (HB3.out.trans (hb.mono HB3.out.size))
    have HY4 : Hid (Lies w4 w2.heap.size #[.string c.key, .string c.val, .bool c.gone] chgT) := (hb.block _ (by simp)).trans (heap_alloc_new w2 _)
    clear hb4 hb
    obtain ⟨x0, x1, x2, g0, g1, g2⟩ := lies3 HX4.out
    obtain ⟨y0, y1, y2, _, _, _⟩ := lies3 HY4.out
    go_wp2_with fail
    refine bodyPost_ret (results_two Tryd.results20 _ _ w.heap.size _ rfl (load_chg _ _ chgT _ rfl (((HX4.out.set 0 _).set 1 _).set 2 _))) rfl ?_
    exact ⟨rfl, set3 HB4.out⟩
  · rw [if_neg h0]
    have hne : ((n : Int) != 0) = true := by simpa using h0
    clear h0
    go_enter Tryd.func20, Tryd.ntmps20
    go_wp2_with fail
    refine (HT.out _).mono ?_
    rintro e w1 ⟨a, cap, rfl, hr1, hb1⟩
    have hb : Below (w.alloc (boxC chgT Chg.none)).heap.size (w.alloc (boxC chgT Chg.none)) w1 := hb1
    have HX : Hid (Lies w1 w.heap.size #[.string ⟨#[]⟩, .string ⟨#[]⟩, .bool false] chgT) := (hb.block _ (by simp)).trans (heap_alloc_new w _)
    have HB := Lib.hid (HA.out.trans (hb.mono HA.out.size))
    have HR := Lib.hid hr1
    clear hb1 hb hr1
    go_wp2_with fail
    refine (HC.out _ _ HR.out).mono ?_
    rintro e w2 ⟨rfl, hb2⟩
    have HX2 : Hid (Lies w2 w.heap.size #[.string ⟨#[]⟩, .string ⟨#[]⟩, .bool false] chgT) := HX.out.same (hb2.block _ HX.out.lt)
    have HB2 := Lib.hid (HB.out.trans (hb2.mono HB.out.size))
    clear hb2
    have HX3 := Lib.hid (HX2.out.same (Below.heap_alloc w2 (boxC chgT c) _ HX2.out.lt))
    have HB3 := Lib.hid (HB2.out.alloc HB2.out.size (boxC chgT c))
    go_wp2_with fail
    refine (HK.out _).mono ?_
    rintro e w4 ⟨rfl, hb4⟩
    have hb : Below (w2.alloc (boxC chgT c)).heap.size (w2.alloc (boxC chgT c)) w4 := hb4
    have HX4 : Hid (Lies w4 w.heap.size #[.string ⟨#[]⟩, .string ⟨#[]⟩, .bool false] chgT) := HX3.out.same (hb.block _ HX3.out.lt)
    have HB4 := Lib.hid (HB3.out.trans (hb.mono HB3.out.size))
    clear hb4 hb
    obtain ⟨x0, x1, x2, g0, g1, g2⟩ := lies3 HX4.out
    go_wp2_with fail
    refine bodyPost_ret (results_two Tryd.results20 _ _ w.heap.size _ rfl (load_chg _ _ chgT _ rfl (((HX4.out.set 0 _).set 1 _).set 2 _))) rfl ?_
    exact ⟨rfl, set3 HB4.out⟩
theorem read_any (s : ByteArray) (w : World) (hs : s.size ≤ 100000) : Calls Tryd.prog 20 #[.string s] w (ReadPost (readS (bl s)) w) := by
  by_cases h0 : (textsS (bl s)).2 = 0
  · cases hch : changeS ((textsS (bl s)).1.map ba) with
    | none => rw [readS_none h0 hch]; exact read_none s w hs h0 hch
    | some c =>
      have h := read_some s w hs h0 c hch (chk c) rfl
      by_cases hk : chk c = 0
      · rw [if_pos hk] at h
        rw [readS_good h0 hch hk]; exact h
      · rw [if_neg hk] at h
        rw [readS_bad h0 hch rfl hk]; exact h
  · rw [readS_err rfl h0]; exact read_err s _ w hs rfl h0
end Go.Proofs.YtkbeppmjdjddhaaDoor.Batch
