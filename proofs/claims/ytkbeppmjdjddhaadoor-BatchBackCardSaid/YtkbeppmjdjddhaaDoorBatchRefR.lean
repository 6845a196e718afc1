/-
  Walks of the document's answer: Read.
-/
import Derived.Test.YtkbeppmjdjddhaaDoorBatchRefA
import Derived.Test.YtkbeppmjdjddhaaDoorBatchRead
namespace Go.Proofs.YtkbeppmjdjddhaaDoor.Batch
open Go Go.RowKit
open Go.Proofs.YtkbeppmjdjddhaaDoor.Nets (Tab Reads rowS textsS str)

theorem refTexts_err (s : ByteArray) (n : Nat) (w : World) (hs : s.size ≤ 100000) (hn : (textsS (bl s)).2 = n) (h0 : n ≠ 0) :
    Calls Tryd.prog 36 #[.string s] w fun e w' => ∃ a cap, e = .returned (.tuple #[.slice a 0 cap, .int .i64 n]) ∧ Below w.heap.size w w' := by
  have hb := Nets.texts_bad _ (bl s) (Nat.le_refl _) (by rw [hn]; exact h0)
  refine (Nets.refTexts_any s w hs).mono ?_
  rintro e w' ⟨v, rfl, hr, hbl⟩
  rw [hb] at hr
  obtain ⟨a, cap, rfl⟩ := Nets.Reads.form hr
  exact ⟨a, cap, by rw [hn]; rfl, hbl⟩
theorem refTexts_fine (s : ByteArray) (ss : List ByteArray) (w : World) (hs : s.size ≤ 100000) (hn : (textsS (bl s)).2 = 0) (hss : (textsS (bl s)).1.map ba = ss) :
    Calls Tryd.prog 36 #[.string s] w fun e w' => ∃ a cap, e = .returned (.tuple #[.slice a ss.length cap, .int .i64 0]) ∧ Reads w' (.slice a ss.length cap) ss ∧ Below w.heap.size w w' := by
  refine (Nets.refTexts_any s w hs).mono ?_
  rintro e w' ⟨v, rfl, hr, hbl⟩
  have hr' : Reads w' v ss := hss ▸ hr
  obtain ⟨a, cap, rfl⟩ := Nets.Reads.form hr'
  exact ⟨a, cap, by rw [hn]; rfl, hr', hbl⟩
set_option maxHeartbeats 2000000 in
theorem refRead_err (s : ByteArray) (n : Nat) (w : World) (hs : s.size ≤ 100000) (hn : (textsS (bl s)).2 = n) (h0 : n ≠ 0) : Calls Tryd.prog 21 #[.string s] w (ReadPost (Chg.none, n) w) := by
  have HA := Lib.hid (last_box refT w Chg.none)
  have HT := Lib.hid (fun W => refTexts_err s n W hs hn h0)
  have hne : ((n : Int) != 0) = true := by simpa using h0
  clear hs hn h0
  go_enter Tryd.func21, Tryd.ntmps21
  go_wp2_with fail
  refine (HT.out _).mono ?_
  rintro e w1 ⟨a, cap, rfl, hb1⟩
  have hb : Below (w.alloc (boxC refT Chg.none)).heap.size (w.alloc (boxC refT Chg.none)) w1 := hb1
  have HX : Hid (Lies w1 w.heap.size #[.string ⟨#[]⟩, .string ⟨#[]⟩, .bool false] refT) := (hb.block _ (by simp)).trans (heap_alloc_new w _)
  have HB := Lib.hid (HA.out.trans (hb.mono HA.out.size))
  clear hb1 hb
  obtain ⟨x0, x1, x2, g0, g1, g2⟩ := lies3 HX.out
  go_wp2_with fail
  refine bodyPost_ret (results_two Tryd.results21 _ _ w.heap.size _ rfl (load_ref _ _ refT _ rfl (((HX.out.set 0 _).set 1 _).set 2 _))) rfl ?_
  exact ⟨rfl, set3 HB.out⟩
set_option maxHeartbeats 2000000 in
theorem refRead_far (s : ByteArray) (w : World) (hs : s.size ≤ 100000) (hn : (textsS (bl s)).2 = 0) (h2 : ((textsS (bl s)).1.map ba).length ≠ 2) (h3 : ((textsS (bl s)).1.map ba).length ≠ 3) : Calls Tryd.prog 21 #[.string s] w (ReadPost (Chg.none, 3) w) := by
  have HA := Lib.hid (last_box refT w Chg.none)
  have HT := Lib.hid (fun W => refTexts_fine s _ W hs hn rfl)
  have d2 : ((((textsS (bl s)).1.map ba).length : Int) == 2) = false := by simp only [beq_eq_false_iff_ne, ne_eq]; omega
  have d3 : ((((textsS (bl s)).1.map ba).length : Int) == 3) = false := by simp only [beq_eq_false_iff_ne, ne_eq]; omega
  generalize (textsS (bl s)).1.map ba = ss at *
  clear hs hn h2 h3
  go_enter Tryd.func21, Tryd.ntmps21
  go_wp2_with fail
  refine (HT.out _).mono ?_
  rintro e w1 ⟨a, cap, rfl, _, hb1⟩
  have hb : Below (w.alloc (boxC refT Chg.none)).heap.size (w.alloc (boxC refT Chg.none)) w1 := hb1
  have HX : Hid (Lies w1 w.heap.size #[.string ⟨#[]⟩, .string ⟨#[]⟩, .bool false] refT) := (hb.block _ (by simp)).trans (heap_alloc_new w _)
  have HB := Lib.hid (HA.out.trans (hb.mono HA.out.size))
  clear hb1 hb
  have hlt := HX.out.lt
  obtain ⟨x0, x1, x2, g0, g1, g2⟩ := lies3 HX.out
  have HX3 := Lib.hid (((HX.out.set 0 (.string ⟨#[]⟩)).set 1 (.string ⟨#[]⟩)).set 2 (.bool false))
  have HB3 := Lib.hid (set3 (x := .string ⟨#[]⟩) (y := .string ⟨#[]⟩) (z := .bool false) HB.out)
  go_wp2_with fail
  refine bodyPost_ret (results_two Tryd.results21 _ _ w.heap.size _ rfl (load_ref _ _ refT _ rfl (HX3.out.same (Below.heap_alloc _ _ _ HX3.out.lt)))) rfl ?_
  exact ⟨rfl, HB3.out.alloc HB3.out.size _⟩
set_option maxHeartbeats 2000000 in
theorem refRead_two_no (s : ByteArray) (t k : ByteArray) (w : World) (hs : s.size ≤ 100000) (hn : (textsS (bl s)).2 = 0) (hss : (textsS (bl s)).1.map ba = [t, k]) (ht : t ≠ ⟨#[45]⟩) : Calls Tryd.prog 21 #[.string s] w (ReadPost (Chg.none, 3) w) := by
  have HA := Lib.hid (last_box refT w Chg.none)
  have HT := Lib.hid (fun W => refTexts_fine s _ W hs hn hss)
  have hd := eq_minus t
  rw [decide_eq_false ht] at hd
  clear hs hn hss ht
  go_enter Tryd.func21, Tryd.ntmps21
  go_wp2_with fail
  refine (HT.out _).mono ?_
  rintro e w1 ⟨a, cap, rfl, hr1, hb1⟩
  have hb : Below (w.alloc (boxC refT Chg.none)).heap.size (w.alloc (boxC refT Chg.none)) w1 := hb1
  have HX : Hid (Lies w1 w.heap.size #[.string ⟨#[]⟩, .string ⟨#[]⟩, .bool false] refT) := (hb.block _ (by simp)).trans (heap_alloc_new w _)
  have HB := Lib.hid (HA.out.trans (hb.mono HA.out.size))
  clear hb1 hb
  obtain ⟨b, off, cap2, ev, hbl, hc⟩ := reads_at hr1 (by simp)
  simp only [List.length_cons, List.length_nil] at ev hr1 ⊢
  have ev2 : a = some ⟨b, off, none⟩ := by simp only [Value.slice.injEq] at ev; exact ev.1
  subst ev2
  have c0 : w1.cell? ⟨b, off + 0, none⟩ = some (.string t) := hc 0 (by simp)
  have c1 : w1.cell? ⟨b, off + 1, none⟩ = some (.string k) := hc 1 (by simp)
  simp only [Nat.add_zero] at c0
  clear ev hc hr1
  have hbn : b ≠ w1.heap.size := by omega
  have hlt := HX.out.lt
  obtain ⟨x0, x1, x2, g0, g1, g2⟩ := lies3 HX.out
  have HX3 := Lib.hid (((HX.out.set 0 (.string ⟨#[]⟩)).set 1 (.string ⟨#[]⟩)).set 2 (.bool false))
  have HB3 := Lib.hid (set3 (x := .string ⟨#[]⟩) (y := .string ⟨#[]⟩) (z := .bool false) HB.out)
  go_wp2_with fail
  refine bodyPost_ret (results_two Tryd.results21 _ _ w.heap.size _ rfl (load_ref _ _ refT _ rfl (HX3.out.same (Below.heap_alloc _ _ _ HX3.out.lt)))) rfl ?_
  exact ⟨rfl, HB3.out.alloc HB3.out.size _⟩
set_option maxHeartbeats 4000000 in
theorem refRead_two_yes (s : ByteArray) (t k : ByteArray) (w : World) (hs : s.size ≤ 100000) (hn : (textsS (bl s)).2 = 0) (hss : (textsS (bl s)).1.map ba = [t, k]) (ht : t = ⟨#[45]⟩) (n : Nat) (hk : chk ⟨k, ⟨#[]⟩, true⟩ = n) :
    Calls Tryd.prog 21 #[.string s] w (ReadPost (if n = 0 then (⟨k, ⟨#[]⟩, true⟩, 0) else (Chg.none, n)) w) := by
  have HA := Lib.hid (last_box refT w Chg.none)
  have HT := Lib.hid (fun W => refTexts_fine s _ W hs hn hss)
  have hf : Fine ⟨k, ⟨#[]⟩, true⟩ := change_fine hn (by simpa using hs) (by rw [hss]; simp [changeS, ht])
  have HK := Lib.hid (fun W => fits_any ⟨k, ⟨#[]⟩, true⟩ W (by have := hf.1; omega) (by have := hf.2; omega) n hk)
  have hd := eq_minus t
  rw [decide_eq_true ht] at hd
  clear hs hn hss ht hk hf
  by_cases h0 : n = 0
  · subst h0
    rw [if_pos rfl]
    go_enter Tryd.func21, Tryd.ntmps21
    go_wp2_with fail
    refine (HT.out _).mono ?_
    rintro e w1 ⟨a, cap, rfl, hr1, hb1⟩
    have hb : Below (w.alloc (boxC refT Chg.none)).heap.size (w.alloc (boxC refT Chg.none)) w1 := hb1
    have HX : Hid (Lies w1 w.heap.size #[.string ⟨#[]⟩, .string ⟨#[]⟩, .bool false] refT) := (hb.block _ (by simp)).trans (heap_alloc_new w _)
    have HB := Lib.hid (HA.out.trans (hb.mono HA.out.size))
    clear hb1 hb
    obtain ⟨b, off, cap2, ev, hbl, hc⟩ := reads_at hr1 (by simp)
    simp only [List.length_cons, List.length_nil] at ev hr1 ⊢
    have ev2 : a = some ⟨b, off, none⟩ := by simp only [Value.slice.injEq] at ev; exact ev.1
    subst ev2
    have c0 : w1.cell? ⟨b, off + 0, none⟩ = some (.string t) := hc 0 (by simp)
    have c1 : w1.cell? ⟨b, off + 1, none⟩ = some (.string k) := hc 1 (by simp)
    simp only [Nat.add_zero] at c0
    clear ev hc hr1
    have hbn : b ≠ w1.heap.size := by omega
    have HX3 := Lib.hid (HX.out.same (Below.heap_alloc w1 (boxC refT ⟨k, ⟨#[]⟩, true⟩) _ HX.out.lt))
    have HB3 := Lib.hid (HB.out.alloc HB.out.size (boxC refT ⟨k, ⟨#[]⟩, true⟩))
    go_wp2_with fail
    refine (HK.out _).mono ?_
    rintro e w4 ⟨rfl, hb4⟩
    have hb : Below (w1.alloc (boxC refT ⟨k, ⟨#[]⟩, true⟩)).heap.size (w1.alloc (boxC refT ⟨k, ⟨#[]⟩, true⟩)) w4 := hb4
    have HX4 : Hid (Lies w4 w.heap.size #[.string ⟨#[]⟩, .string ⟨#[]⟩, .bool false] refT) := HX3.out.same (hb.block _ HX3.out.lt)
    have HB4 := Lib.hid (HB3.out.trans (hb.mono HB3.out.size))
    have HY4 : Hid (Lies w4 w1.heap.size #[.string (⟨k, ⟨#[]⟩, true⟩ : Chg).key, .string (⟨k, ⟨#[]⟩, true⟩ : Chg).val, .bool (⟨k, ⟨#[]⟩, true⟩ : Chg).gone] refT) := (hb.block _ (by simp)).trans (heap_alloc_new w1 _)
    clear hb4 hb
    obtain ⟨x0, x1, x2, g0, g1, g2⟩ := lies3 HX4.out
    obtain ⟨y0, y1, y2, _, _, _⟩ := lies3 HY4.out
    go_wp2_with fail
    refine bodyPost_ret (results_two Tryd.results21 _ _ w.heap.size _ rfl (load_ref _ _ refT _ rfl (((HX4.out.set 0 _).set 1 _).set 2 _))) rfl ?_
    exact ⟨rfl, set3 HB4.out⟩
  · rw [if_neg h0]
    have hne : ((n : Int) != 0) = true := by simpa using h0
    clear h0
    go_enter Tryd.func21, Tryd.ntmps21
    go_wp2_with fail
    refine (HT.out _).mono ?_
    rintro e w1 ⟨a, cap, rfl, hr1, hb1⟩
    have hb : Below (w.alloc (boxC refT Chg.none)).heap.size (w.alloc (boxC refT Chg.none)) w1 := hb1
    have HX : Hid (Lies w1 w.heap.size #[.string ⟨#[]⟩, .string ⟨#[]⟩, .bool false] refT) := (hb.block _ (by simp)).trans (heap_alloc_new w _)
    have HB := Lib.hid (HA.out.trans (hb.mono HA.out.size))
    clear hb1 hb
    obtain ⟨b, off, cap2, ev, hbl, hc⟩ := reads_at hr1 (by simp)
    simp only [List.length_cons, List.length_nil] at ev hr1 ⊢
    have ev2 : a = some ⟨b, off, none⟩ := by simp only [Value.slice.injEq] at ev; exact ev.1
    subst ev2
    have c0 : w1.cell? ⟨b, off + 0, none⟩ = some (.string t) := hc 0 (by simp)
    have c1 : w1.cell? ⟨b, off + 1, none⟩ = some (.string k) := hc 1 (by simp)
    simp only [Nat.add_zero] at c0
    clear ev hc hr1
    have hbn : b ≠ w1.heap.size := by omega
    have HX3 := Lib.hid (HX.out.same (Below.heap_alloc w1 (boxC refT ⟨k, ⟨#[]⟩, true⟩) _ HX.out.lt))
    have HB3 := Lib.hid (HB.out.alloc HB.out.size (boxC refT ⟨k, ⟨#[]⟩, true⟩))
    go_wp2_with fail
    refine (HK.out _).mono ?_
    rintro e w4 ⟨rfl, hb4⟩
    have hb : Below (w1.alloc (boxC refT ⟨k, ⟨#[]⟩, true⟩)).heap.size (w1.alloc (boxC refT ⟨k, ⟨#[]⟩, true⟩)) w4 := hb4
    have HX4 : Hid (Lies w4 w.heap.size #[.string ⟨#[]⟩, .string ⟨#[]⟩, .bool false] refT) := HX3.out.same (hb.block _ HX3.out.lt)
    have HB4 := Lib.hid (HB3.out.trans (hb.mono HB3.out.size))
    have HY4 : Hid (Lies w4 w1.heap.size #[.string (⟨k, ⟨#[]⟩, true⟩ : Chg).key, .string (⟨k, ⟨#[]⟩, true⟩ : Chg).val, .bool (⟨k, ⟨#[]⟩, true⟩ : Chg).gone] refT) := (hb.block _ (by simp)).trans (heap_alloc_new w1 _)
    clear hb4 hb
    obtain ⟨x0, x1, x2, g0, g1, g2⟩ := lies3 HX4.out
    obtain ⟨y0, y1, y2, _, _, _⟩ := lies3 HY4.out
    go_wp2_with fail
    refine bodyPost_ret (results_two Tryd.results21 _ _ w.heap.size _ rfl (load_ref _ _ refT _ rfl (((HX4.out.set 0 _).set 1 _).set 2 _))) rfl ?_
    exact ⟨rfl, set3 HB4.out⟩
set_option maxHeartbeats 2000000 in
theorem refRead_three_no (s : ByteArray) (t k v : ByteArray) (w : World) (hs : s.size ≤ 100000) (hn : (textsS (bl s)).2 = 0) (hss : (textsS (bl s)).1.map ba = [t, k, v]) (ht : t ≠ ⟨#[43]⟩) : Calls Tryd.prog 21 #[.string s] w (ReadPost (Chg.none, 3) w) := by
  have HA := Lib.hid (last_box refT w Chg.none)
  have HT := Lib.hid (fun W => refTexts_fine s _ W hs hn hss)
  have hd := eq_plus t
  rw [decide_eq_false ht] at hd
  clear hs hn hss ht
  go_enter Tryd.func21, Tryd.ntmps21
  go_wp2_with fail
  refine (HT.out _).mono ?_
  rintro e w1 ⟨a, cap, rfl, hr1, hb1⟩
  have hb : Below (w.alloc (boxC refT Chg.none)).heap.size (w.alloc (boxC refT Chg.none)) w1 := hb1
  have HX : Hid (Lies w1 w.heap.size #[.string ⟨#[]⟩, .string ⟨#[]⟩, .bool false] refT) := (hb.block _ (by simp)).trans (heap_alloc_new w _)
  have HB := Lib.hid (HA.out.trans (hb.mono HA.out.size))
  clear hb1 hb
  obtain ⟨b, off, cap2, ev, hbl, hc⟩ := reads_at hr1 (by simp)
  simp only [List.length_cons, List.length_nil] at ev hr1 ⊢
  have ev2 : a = some ⟨b, off, none⟩ := by simp only [Value.slice.injEq] at ev; exact ev.1
  subst ev2
  have c0 : w1.cell? ⟨b, off + 0, none⟩ = some (.string t) := hc 0 (by simp)
  have c1 : w1.cell? ⟨b, off + 1, none⟩ = some (.string k) := hc 1 (by simp)
  have c2 : w1.cell? ⟨b, off + 2, none⟩ = some (.string v) := hc 2 (by simp)
  simp only [Nat.add_zero] at c0
  clear ev hc hr1
  have hbn : b ≠ w1.heap.size := by omega
  have hlt := HX.out.lt
  obtain ⟨x0, x1, x2, g0, g1, g2⟩ := lies3 HX.out
  have HX3 := Lib.hid (((HX.out.set 0 (.string ⟨#[]⟩)).set 1 (.string ⟨#[]⟩)).set 2 (.bool false))
  have HB3 := Lib.hid (set3 (x := .string ⟨#[]⟩) (y := .string ⟨#[]⟩) (z := .bool false) HB.out)
  go_wp2_with fail
  refine bodyPost_ret (results_two Tryd.results21 _ _ w.heap.size _ rfl (load_ref _ _ refT _ rfl (HX3.out.same (Below.heap_alloc _ _ _ HX3.out.lt)))) rfl ?_
  exact ⟨rfl, HB3.out.alloc HB3.out.size _⟩
set_option maxHeartbeats 4000000 in
theorem refRead_three_yes (s : ByteArray) (t k v : ByteArray) (w : World) (hs : s.size ≤ 100000) (hn : (textsS (bl s)).2 = 0) (hss : (textsS (bl s)).1.map ba = [t, k, v]) (ht : t = ⟨#[43]⟩) (n : Nat) (hk : chk ⟨k, v, false⟩ = n) :
    Calls Tryd.prog 21 #[.string s] w (ReadPost (if n = 0 then (⟨k, v, false⟩, 0) else (Chg.none, n)) w) := by
  have HA := Lib.hid (last_box refT w Chg.none)
  have HT := Lib.hid (fun W => refTexts_fine s _ W hs hn hss)
  have hf : Fine ⟨k, v, false⟩ := change_fine hn (by simpa using hs) (by rw [hss]; simp [changeS, ht])
  have HK := Lib.hid (fun W => fits_any ⟨k, v, false⟩ W (by have := hf.1; omega) (by have := hf.2; omega) n hk)
  have hd := eq_plus t
  rw [decide_eq_true ht] at hd
  clear hs hn hss ht hk hf
  by_cases h0 : n = 0
  · subst h0
    rw [if_pos rfl]
    go_enter Tryd.func21, Tryd.ntmps21
    go_wp2_with fail
    refine (HT.out _).mono ?_
    rintro e w1 ⟨a, cap, rfl, hr1, hb1⟩
    have hb : Below (w.alloc (boxC refT Chg.none)).heap.size (w.alloc (boxC refT Chg.none)) w1 := hb1
    have HX : Hid (Lies w1 w.heap.size #[.string ⟨#[]⟩, .string ⟨#[]⟩, .bool false] refT) := (hb.block _ (by simp)).trans (heap_alloc_new w _)
    have HB := Lib.hid (HA.out.trans (hb.mono HA.out.size))
    clear hb1 hb
    obtain ⟨b, off, cap2, ev, hbl, hc⟩ := reads_at hr1 (by simp)
    simp only [List.length_cons, List.length_nil] at ev hr1 ⊢
    have ev2 : a = some ⟨b, off, none⟩ := by simp only [Value.slice.injEq] at ev; exact ev.1
    subst ev2
    have c0 : w1.cell? ⟨b, off + 0, none⟩ = some (.string t) := hc 0 (by simp)
    have c1 : w1.cell? ⟨b, off + 1, none⟩ = some (.string k) := hc 1 (by simp)
    have c2 : w1.cell? ⟨b, off + 2, none⟩ = some (.string v) := hc 2 (by simp)
    simp only [Nat.add_zero] at c0
    clear ev hc hr1
    have hbn : b ≠ w1.heap.size := by omega
    have HX3 := Lib.hid (HX.out.same (Below.heap_alloc w1 (boxC refT ⟨k, v, false⟩) _ HX.out.lt))
    have HB3 := Lib.hid (HB.out.alloc HB.out.size (boxC refT ⟨k, v, false⟩))
    go_wp2_with fail
    refine (HK.out _).mono ?_
    rintro e w4 ⟨rfl, hb4⟩
    have hb : Below (w1.alloc (boxC refT ⟨k, v, false⟩)).heap.size (w1.alloc (boxC refT ⟨k, v, false⟩)) w4 := hb4
    have HX4 : Hid (Lies w4 w.heap.size #[.string ⟨#[]⟩, .string ⟨#[]⟩, .bool false] refT) := HX3.out.same (hb.block _ HX3.out.lt)
    have HB4 := Lib.hid (HB3.out.trans (hb.mono HB3.out.size))
    have HY4 : Hid (Lies w4 w1.heap.size #[.string (⟨k, v, false⟩ : Chg).key, .string (⟨k, v, false⟩ : Chg).val, .bool (⟨k, v, false⟩ : Chg).gone] refT) := (hb.block _ (by simp)).trans (heap_alloc_new w1 _)
    clear hb4 hb
    obtain ⟨x0, x1, x2, g0, g1, g2⟩ := lies3 HX4.out
    obtain ⟨y0, y1, y2, _, _, _⟩ := lies3 HY4.out
    go_wp2_with fail
    refine bodyPost_ret (results_two Tryd.results21 _ _ w.heap.size _ rfl (load_ref _ _ refT _ rfl (((HX4.out.set 0 _).set 1 _).set 2 _))) rfl ?_
    exact ⟨rfl, set3 HB4.out⟩
  · rw [if_neg h0]
    have hne : ((n : Int) != 0) = true := by simpa using h0
    clear h0
    go_enter Tryd.func21, Tryd.ntmps21
    go_wp2_with fail
    refine (HT.out _).mono ?_
    rintro e w1 ⟨a, cap, rfl, hr1, hb1⟩
    have hb : Below (w.alloc (boxC refT Chg.none)).heap.size (w.alloc (boxC refT Chg.none)) w1 := hb1
    have HX : Hid (Lies w1 w.heap.size #[.string ⟨#[]⟩, .string ⟨#[]⟩, .bool false] refT) := (hb.block _ (by simp)).trans (heap_alloc_new w _)
    have HB := Lib.hid (HA.out.trans (hb.mono HA.out.size))
    clear hb1 hb
    obtain ⟨b, off, cap2, ev, hbl, hc⟩ := reads_at hr1 (by simp)
    simp only [List.length_cons, List.length_nil] at ev hr1 ⊢
    have ev2 : a = some ⟨b, off, none⟩ := by simp only [Value.slice.injEq] at ev; exact ev.1
    subst ev2
    have c0 : w1.cell? ⟨b, off + 0, none⟩ = some (.string t) := hc 0 (by simp)
    have c1 : w1.cell? ⟨b, off + 1, none⟩ = some (.string k) := hc 1 (by simp)
    have c2 : w1.cell? ⟨b, off + 2, none⟩ = some (.string v) := hc 2 (by simp)
    simp only [Nat.add_zero] at c0
    clear ev hc hr1
    have hbn : b ≠ w1.heap.size := by omega
    have HX3 := Lib.hid (HX.out.same (Below.heap_alloc w1 (boxC refT ⟨k, v, false⟩) _ HX.out.lt))
    have HB3 := Lib.hid (HB.out.alloc HB.out.size (boxC refT ⟨k, v, false⟩))
    go_wp2_with fail
    refine (HK.out _).mono ?_
    rintro e w4 ⟨rfl, hb4⟩
    have hb : Below (w1.alloc (boxC refT ⟨k, v, false⟩)).heap.size (w1.alloc (boxC refT ⟨k, v, false⟩)) w4 := hb4
    have HX4 : Hid (Lies w4 w.heap.size #[.string ⟨#[]⟩, .string ⟨#[]⟩, .bool false] refT) := HX3.out.same (hb.block _ HX3.out.lt)
    have HB4 := Lib.hid (HB3.out.trans (hb.mono HB3.out.size))
    have HY4 : Hid (Lies w4 w1.heap.size #[.string (⟨k, v, false⟩ : Chg).key, .string (⟨k, v, false⟩ : Chg).val, .bool (⟨k, v, false⟩ : Chg).gone] refT) := (hb.block _ (by simp)).trans (heap_alloc_new w1 _)
    clear hb4 hb
    obtain ⟨x0, x1, x2, g0, g1, g2⟩ := lies3 HX4.out
    obtain ⟨y0, y1, y2, _, _, _⟩ := lies3 HY4.out
    go_wp2_with fail
    refine bodyPost_ret (results_two Tryd.results21 _ _ w.heap.size _ rfl (load_ref _ _ refT _ rfl (((HX4.out.set 0 _).set 1 _).set 2 _))) rfl ?_
    exact ⟨rfl, set3 HB4.out⟩
theorem refRead_any (s : ByteArray) (w : World) (hs : s.size ≤ 100000) : Calls Tryd.prog 21 #[.string s] w (ReadPost (readS (bl s)) w) := by
  by_cases h0 : (textsS (bl s)).2 = 0
  · by_cases h2 : ((textsS (bl s)).1.map ba).length = 2
    · obtain ⟨t, k, hss⟩ : ∃ t k, (textsS (bl s)).1.map ba = [t, k] := by
        match h : (textsS (bl s)).1.map ba, h2 with
        | [t, k], _ => exact ⟨t, k, rfl⟩
      by_cases ht : t = ⟨#[45]⟩
      · have hc : changeS ((textsS (bl s)).1.map ba) = some ⟨k, ⟨#[]⟩, true⟩ := by rw [hss]; simp [changeS, ht]
        have h := refRead_two_yes s t k w hs h0 hss ht _ rfl
        by_cases hk : chk ⟨k, ⟨#[]⟩, true⟩ = 0
        · rw [if_pos hk] at h
          rw [readS_good h0 hc hk]; exact h
        · rw [if_neg hk] at h
          rw [readS_bad h0 hc rfl hk]; exact h
      · rw [readS_none h0 (by rw [hss]; simp [changeS, ht])]
        exact refRead_two_no s t k w hs h0 hss ht
    · by_cases h3 : ((textsS (bl s)).1.map ba).length = 3
      · obtain ⟨t, k, v, hss⟩ : ∃ t k v, (textsS (bl s)).1.map ba = [t, k, v] := by
          match h : (textsS (bl s)).1.map ba, h3 with
          | [t, k, v], _ => exact ⟨t, k, v, rfl⟩
        by_cases ht : t = ⟨#[43]⟩
        · have hc : changeS ((textsS (bl s)).1.map ba) = some ⟨k, v, false⟩ := by rw [hss]; simp [changeS, ht]
          have h := refRead_three_yes s t k v w hs h0 hss ht _ rfl
          by_cases hk : chk ⟨k, v, false⟩ = 0
          · rw [if_pos hk] at h
            rw [readS_good h0 hc hk]; exact h
          · rw [if_neg hk] at h
            rw [readS_bad h0 hc rfl hk]; exact h
        · rw [readS_none h0 (by rw [hss]; simp [changeS, ht])]
          exact refRead_three_no s t k v w hs h0 hss ht
      · rw [readS_none h0 (change_far h2 h3)]
        exact refRead_far s w hs h0 h2 h3
  · rw [readS_err rfl h0]; exact refRead_err s _ w hs rfl h0
end Go.Proofs.YtkbeppmjdjddhaaDoor.Batch
