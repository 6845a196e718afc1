/-
  Walks of the document addr, the first part.
-/
import Derived.Test.YtegbkfloiiilfaaGreatDoorMgAddrB
import Derived.Test.YtegbkfloiiilfaaGreatDoorMgLexR
import Derived.Test.YtegbkfloiiilfaaGreatDoorMgGlyph

/-
  Walks of the document's answers: Split, label, Domain, Dotted.
-/
namespace Go.Proofs.YtegbkfloiiilfaaGreatDoor.Addr
open Go Go.RowKit
open Go.Proofs.YtegbkfloiiilfaaGreatDoor.Lex
open Go.Proofs.YtegbkfloiiilfaaGreatDoor.Glyph (fd foldL foldL_foldL fold_any)

theorem append_str (w : World) (B : Nat) (v : Value) (ws : List ByteArray) (x : ByteArray) (ho : w.ownsRow B strT 1 v ws.length (ws.map Value.string)) (hl : ws.length ≤ 2000000) (hB : B ≤ w.heap.size) :
    ∃ a c w', (Builtin.append_ #[57, 57] 57 #[v, .slice (some ⟨w.heap.size, 0, none⟩) 1 1]).run Tryz.prog (w.alloc (.cells #[.string x] strT)) = .ok (.slice a (ws.length + 1) c) w' ∧
      Hid (w'.ownsRow B strT 1 (.slice a (ws.length + 1) c) (ws.length + 1) ((ws ++ [x]).map Value.string) ∧ Below B w w') := by
  have hal : Below B w (w.alloc (.cells #[.string x] strT)) := (Below.refl _ _).alloc hB _
  have hg : Lies (w.alloc (.cells #[.string x] strT)) w.heap.size #[.string x] strT := Lies.new w _ _
  obtain ⟨i, hi, hz0, hz1, hz2⟩ := info_parts infoS
  obtain ⟨v', w', hr, h2, h3, _, h5⟩ := run_append_own_at (P := Tryz.prog) (w.alloc (.cells #[.string x] strT)) B 57 57 strT i _ 1 16 Tryz.underlying57 hi hz0 hz1 hz2 rfl (by decide) v ws.length (ws.map Value.string) (ho.alloc _) ⟨w.heap.size, 0, none⟩ 1 1 [.string x] rfl (fun j u hu => by
    rw [addr_add, Nat.zero_add]
    exact (hg.cell j).trans (by simpa using hu)) (by intro u hu; obtain rfl := List.mem_singleton.1 hu; rfl) (by unfold maxLen; omega) (by omega) (by simp; omega)
  have h2' : w'.ownsRow B strT 1 v' (ws.length + 1) ((ws ++ [x]).map Value.string) := by simpa using h2
  obtain ⟨a, c, rfl⟩ := owns_slice h2'
  exact ⟨a, c, w', hr, Lib.hid ⟨h2', hal.grown h3 (by simp; omega) fun k hk => ((ho.alloc (.cells #[.string x] strT)).lt k hk).1⟩⟩
theorem owns_readsP {w : World} {B : Nat} {v : Value} {ps : List (List UInt8)} {n : Nat} (h : w.ownsRow B strT 1 v n ((ps.map ba).map Value.string)) (hn : n = ps.length) (hne : ps ≠ []) : ReadsP w v ps := by
  subst hn
  have hc := fun g hg => h.cells (g := g) hg
  have hlt := h.lt
  rcases h.2 with ⟨rfl, h0⟩ | ⟨g, cap, cur, rfl, hb, hg, h1, h2, _, _⟩
  · exact absurd (List.length_eq_zero_iff.1 h0) hne
  · refine ⟨g, cap, rfl, h1, (hlt g rfl).2, fun i p hi => ?_⟩
    have e1 := hc g rfl i (.string (ba p)) (by rw [List.getElem?_map, List.getElem?_map, hi]; rfl)
    rw [addr_add, Nat.zero_add] at e1
    exact e1
/-- The pieces so far, the one at hand, and what lay there before. -/
structure SpAt (s : ByteArray) (w wr : World) (k : Nat) (done : List (List UInt8)) (acc : List UInt8) (ov : Value) : Prop where
  eq : done ++ pcs acc ((bl s).drop k) = pieces (bl s)
  few : done.length ≤ k
  acc : acc.length ≤ k
  owns : wr.ownsRow w.heap.size strT 1 ov done.length ((done.map ba).map Value.string)
  below : Below w.heap.size w wr
theorem one_byte (s : ByteArray) (k : Nat) (h : k < s.size) : s.extract k (k + 1) = ba [s[k]] := Glyph.one_ext s k h
set_option maxRecDepth 100000 in
set_option maxHeartbeats 2000000 in
theorem refSplit_any (s : ByteArray) (w : World) (hs : s.size ≤ 1000000) :
    Calls Tryz.prog 151 #[.string s, .int .u8 46] w fun e w' => ∃ v, e = .returned v ∧ ReadsP w' v (pieces (bl s)) ∧ Below w.heap.size w w' := by
  have HI : Hid (SpAt s w w 0 [] [] (.slice none 0 0)) := Lib.hid ⟨rfl, Nat.le_refl _, Nat.le_refl _, World.ownsRow_nil _ _ _ _, Below.refl _ _⟩
  go_enter Tryz.func151, Tryz.ntmps151
  go_wp2_with fail
  go_loopw [5, 6, 7] (fun ov a i wr => ∃ (k : Nat) (done : List (List UInt8)) (acc : List UInt8), k ≤ s.size ∧ i = .int .i64 k ∧ a = .string (ba acc) ∧ Hid (SpAt s w wr k done acc ov)) (fun _ _ i _ => s.size - (intOf i).toNat)
  case atStart => exact ⟨0, [], [], Nat.zero_le _, rfl, rfl, HI⟩
  case round =>
    clear HI
    obtain ⟨k, done, acc, hk, rfl, rfl, hI⟩ := hrel
    obtain ⟨oa, oc, rfl⟩ := owns_slice hI.out.owns
    obtain ⟨n, hn⟩ : ∃ n, n = done.length := ⟨_, rfl⟩
    have hnk : n ≤ k := by rw [hn]; exact hI.out.few
    have hacc : (ba acc).size ≤ k := by rw [ba_size]; exact hI.out.acc
    by_cases hlt : k < s.size
    · have h8 : s[k].toNat < 256 := s[k].toNat_lt
      have hd := drop_cons s k hlt
      by_cases h46 : s[k] = 46
      · have t1 : ((s[k].toNat : Int) == 46) = true := by rw [h46]; rfl
        obtain ⟨a', c', w2, hr, hh⟩ := append_str wr w.heap.size _ (done.map ba) (ba acc) (by rw [List.length_map]; exact hI.out.owns) (by rw [List.length_map]; omega) hI.out.below.size
        rw [List.length_map, ← hn] at hr hh
        have HR := Lib.hid hr
        have HN : Hid (SpAt s w w2 (k + 1) (done ++ [acc]) [] (.slice a' (n + 1) c')) := Lib.hid ⟨by
            have h := hI.out.eq
            rw [hd, h46, pcs_hit] at h
            rw [← h]
            simp, by simp; omega, by simp, by
            have h := hh.out.1
            rw [List.map_append, List.length_append, ← hn]
            exact h, hI.out.below.trans hh.out.2⟩
        rw [← hn]
        clear hr hh hd h46 hI hn
        generalize ba acc = x at *
        go_wp2_with (at_builtin; refine Lib.wpList_append_run _ rfl _ _ _ _ rfl _ _ rfl rfl _ _ HR.out ?_)
        go_roundw
        case rel => exact ⟨k + 1, _, [], by omega, by simp, rfl, HN⟩
        case measure => simp [intOf]; omega
      · have t1 : ((s[k].toNat : Int) == 46) = false := by
          rw [beq_eq_false_iff_ne]
          intro h
          exact h46 (UInt8.toNat.inj (by show s[k].toNat = 46; omega))
        have hx := one_byte s k hlt
        have hz1 : (ba [s[k]]).size = 1 := rfl
        have HN : Hid (SpAt s w wr (k + 1) done (acc ++ [s[k]]) (.slice oa done.length oc)) := Lib.hid ⟨by
            have h := hI.out.eq
            rw [hd, pcs, if_neg h46] at h
            exact h, by have := hI.out.few; omega, by have := hI.out.acc; simp; omega, hI.out.owns, hI.out.below⟩
        have HJ := Lib.hid (ba_cat acc [s[k]])
        rw [← hn] at HN ⊢
        clear hd h46 hI hn
        generalize ba acc = x at *
        generalize ba [s[k]] = y at *
        go_wp2_with fail
        go_roundw
        case rel => exact ⟨k + 1, done, _, by omega, by simp, by rw [HJ.out], HN⟩
        case measure => simp [intOf]; omega
    · obtain ⟨a', c', w2, hr, hh⟩ := append_str wr w.heap.size _ (done.map ba) (ba acc) (by rw [List.length_map]; exact hI.out.owns) (by rw [List.length_map]; omega) hI.out.below.size
      rw [List.length_map, ← hn] at hr hh
      have HR := Lib.hid hr
      have HE : Hid (ReadsP w2 (.slice a' (n + 1) c') (pieces (bl s)) ∧ Below w.heap.size w w2) := Lib.hid (by
        have h := hI.out.eq
        rw [drop_end s k hlt, pcs] at h
        refine ⟨?_, hI.out.below.trans hh.out.2⟩
        rw [← h]
        refine owns_readsP (n := n + 1) (B := w.heap.size) ?_ (by simp [hn]) (by simp)
        rw [List.map_append]
        exact hh.out.1)
      rw [← hn]
      clear hr hh hI hn
      generalize ba acc = x at *
      go_wp2_with (at_builtin; refine Lib.wpList_append_run _ rfl _ _ _ _ rfl _ _ rfl rfl _ _ HR.out ?_)
      go_ret
      exact ⟨_, rfl, HE.out⟩

/-! Its label, Domain, Dotted. -/
/-- A byte of a label, but for where it stands. -/
def lowN (n : Nat) : Nat := if 65 ≤ n ∧ n ≤ 90 then n + 32 else n
def okR (e : Bool) (n : Nat) : Bool := (decide (97 ≤ lowN n) && decide (lowN n ≤ 122)) || ((decide (48 ≤ lowN n) && decide (lowN n ≤ 57)) || (lowN n == 45 && !e))
theorem okR_mid (n : Nat) (hn : n < 256) : okR false n = lbN n := beq_iff_eq.1 (all256 (p := fun n => okR false n == lbN n) (by decide +kernel) n hn)
theorem okR_end (n : Nat) (hn : n < 256) : okR true n = (lbN n && !(n == 45)) := beq_iff_eq.1 (all256 (p := fun n => okR true n == (lbN n && !(n == 45))) (by decide +kernel) n hn)
/-- Is the byte at the beginning, or at the end? -/
def edge (n k : Nat) : Bool := k == 0 || k + 1 == n
theorem label_all {s : ByteArray} (h : 0 < s.size) : labelB (bl s) = true ↔ ∀ k (hk : k < s.size), okR (edge s.size k) s[k].toNat = true := by
  rw [label_parts h]
  simp only [Bool.and_eq_true, Bool.not_eq_true', List.all_eq_true]
  have e45 : ∀ c : UInt8, (c == 45) = (c.toNat == 45) := fun c => by
    rw [Bool.eq_iff_iff, beq_iff_eq, beq_iff_eq]
    exact ⟨fun h => by rw [h]; rfl, fun h => UInt8.toNat.inj h⟩
  constructor
  · rintro ⟨h0, h1, h2⟩ k hk
    have hb := h2 s[k] (by
      have : s[k] ∈ (bl s).drop k := by rw [drop_cons s k hk]; simp
      exact List.mem_of_mem_drop this)
    have hlt : s[k].toNat < 256 := s[k].toNat_lt
    cases he : edge s.size k
    · rw [okR_mid _ hlt]; exact hb
    · rw [okR_end _ hlt, show lbN s[k].toNat = true from hb, Bool.true_and, ← e45]
      unfold edge at he
      rw [Bool.or_eq_true, beq_iff_eq, beq_iff_eq] at he
      rcases he with rfl | he
      · rw [h0]; rfl
      · obtain rfl : k = s.size - 1 := by omega
        rw [h1]; rfl
  · intro hall
    have hend : ∀ k (hk : k < s.size), edge s.size k = true → (s[k] == 45) = false := fun k hk he => by
      have := hall k hk
      rw [he, okR_end _ s[k].toNat_lt, Bool.and_eq_true, Bool.not_eq_true'] at this
      rw [e45]
      exact this.2
    refine ⟨hend 0 h rfl, hend (s.size - 1) (by omega) (by unfold edge; rw [Bool.or_eq_true, beq_iff_eq, beq_iff_eq]; omega), fun c hc => ?_⟩
    obtain ⟨k, hk, rfl⟩ := List.mem_iff_getElem.1 hc
    have hk' : k < s.size := by rw [← bl_len]; exact hk
    have := hall k hk'
    cases he : edge s.size k
    · rw [he, okR_mid _ s[k].toNat_lt] at this; exact this
    · rw [he, okR_end _ s[k].toNat_lt, Bool.and_eq_true] at this
      exact this.1
theorem ok_lo (e : Bool) (n : Nat) (h1 : 0 ≤ n) (h2 : n ≤ 44) : okR e n = false := by
  have := all256 (p := fun n => !(decide (0 ≤ n) && decide (n ≤ 44)) || (!okR true n && !okR false n)) (by decide +kernel) n (by omega)
  simp only [h1, h2, decide_true, Bool.and_self, Bool.not_true, Bool.false_or, Bool.and_eq_true, Bool.not_eq_true'] at this
  cases e
  · exact this.2
  · exact this.1
theorem ok_dash (e : Bool) (n : Nat) (h : n = 45) : okR e n = !e := by subst h; cases e <;> rfl
theorem ok_sep (e : Bool) (n : Nat) (h1 : 46 ≤ n) (h2 : n ≤ 47) : okR e n = false := by
  have := all256 (p := fun n => !(decide (46 ≤ n) && decide (n ≤ 47)) || (!okR true n && !okR false n)) (by decide +kernel) n (by omega)
  simp only [h1, h2, decide_true, Bool.and_self, Bool.not_true, Bool.false_or, Bool.and_eq_true, Bool.not_eq_true'] at this
  cases e
  · exact this.2
  · exact this.1
theorem ok_dig (e : Bool) (n : Nat) (h1 : 48 ≤ n) (h2 : n ≤ 57) : okR e n = true := by
  have := all256 (p := fun n => !(decide (48 ≤ n) && decide (n ≤ 57)) || (okR true n && okR false n)) (by decide +kernel) n (by omega)
  simp only [h1, h2, decide_true, Bool.and_self, Bool.not_true, Bool.false_or, Bool.and_eq_true] at this
  cases e
  · exact this.2
  · exact this.1
theorem ok_mid (e : Bool) (n : Nat) (h1 : 58 ≤ n) (h2 : n ≤ 64) : okR e n = false := by
  have := all256 (p := fun n => !(decide (58 ≤ n) && decide (n ≤ 64)) || (!okR true n && !okR false n)) (by decide +kernel) n (by omega)
  simp only [h1, h2, decide_true, Bool.and_self, Bool.not_true, Bool.false_or, Bool.and_eq_true, Bool.not_eq_true'] at this
  cases e
  · exact this.2
  · exact this.1
theorem ok_up (e : Bool) (n : Nat) (h1 : 65 ≤ n) (h2 : n ≤ 90) : okR e n = true := by
  have := all256 (p := fun n => !(decide (65 ≤ n) && decide (n ≤ 90)) || (okR true n && okR false n)) (by decide +kernel) n (by omega)
  simp only [h1, h2, decide_true, Bool.and_self, Bool.not_true, Bool.false_or, Bool.and_eq_true] at this
  cases e
  · exact this.2
  · exact this.1
theorem ok_mid2 (e : Bool) (n : Nat) (h1 : 91 ≤ n) (h2 : n ≤ 96) : okR e n = false := by
  have := all256 (p := fun n => !(decide (91 ≤ n) && decide (n ≤ 96)) || (!okR true n && !okR false n)) (by decide +kernel) n (by omega)
  simp only [h1, h2, decide_true, Bool.and_self, Bool.not_true, Bool.false_or, Bool.and_eq_true, Bool.not_eq_true'] at this
  cases e
  · exact this.2
  · exact this.1
theorem ok_low (e : Bool) (n : Nat) (h1 : 97 ≤ n) (h2 : n ≤ 122) : okR e n = true := by
  have := all256 (p := fun n => !(decide (97 ≤ n) && decide (n ≤ 122)) || (okR true n && okR false n)) (by decide +kernel) n (by omega)
  simp only [h1, h2, decide_true, Bool.and_self, Bool.not_true, Bool.false_or, Bool.and_eq_true] at this
  cases e
  · exact this.2
  · exact this.1
theorem ok_hi (e : Bool) (n : Nat) (h1 : 123 ≤ n) (h2 : n ≤ 255) : okR e n = false := by
  have := all256 (p := fun n => !(decide (123 ≤ n) && decide (n ≤ 255)) || (!okR true n && !okR false n)) (by decide +kernel) n (by omega)
  simp only [h1, h2, decide_true, Bool.and_self, Bool.not_true, Bool.false_or, Bool.and_eq_true, Bool.not_eq_true'] at this
  cases e
  · exact this.2
  · exact this.1
set_option maxRecDepth 100000 in
set_option maxHeartbeats 8000000 in
theorem refLabel_any (s : ByteArray) (w : World) (hs : s.size ≤ 1000000) :
    Calls Tryz.prog 152 #[.string s] w fun e w' => e = .returned (.bool (labelB (bl s))) ∧ w = w' := by
  by_cases h0 : s.size = 0
  · have hq : s.toList.isEmpty = true := by
      rw [Lib.toList_data, List.isEmpty_iff]
      exact List.length_eq_zero_iff.1 (by rw [bl_len]; exact h0)
    have HE := Lib.hid (label_empty h0)
    go_enter Tryz.func152, Tryz.ntmps152
    go_wp2_with fail
    go_loopw [3] (fun i wr => i = .int .i64 0 ∧ wr = w) (fun _ _ => 0)
    case atStart => exact ⟨rfl, rfl⟩
    case round =>
      obtain ⟨rfl, rfl⟩ := hrel
      go_wp2_with fail
      go_ret
      rw [HE.out]
      exact ⟨rfl, rfl⟩
  · have hp : 0 < s.size := by omega
    have hq : s.toList.isEmpty = false := by
      rw [Lib.toList_data, List.isEmpty_eq_false_iff]
      intro e
      exact h0 (by rw [← bl_len, show bl s = [] from e]; rfl)
    have HL := Lib.hid (label_all hp)
    clear h0
    go_enter Tryz.func152, Tryz.ntmps152
    go_wp2_with fail
    go_loopw [3] (fun i wr => ∃ k : Nat, k ≤ s.size ∧ i = .int .i64 k ∧ Hid (∀ j (hj : j < s.size), j < k → okR (edge s.size j) s[j].toNat = true) ∧ wr = w) (fun i _ => s.size - (intOf i).toNat)
    case atStart => exact ⟨0, Nat.zero_le _, rfl, Lib.hid (by intro j hj h; omega), rfl⟩
    case round =>
      obtain ⟨k, hk, rfl, hall, rfl⟩ := hrel
      by_cases hlt : k < s.size
      · have h8 : s[k].toNat < 256 := s[k].toNat_lt
        have HN : okR (edge s.size k) s[k].toNat = true → Hid (∀ j (hj : j < s.size), j < k + 1 → okR (edge s.size j) s[j].toNat = true) := fun h => Lib.hid (by
          intro j hj hjk
          by_cases e : j = k
          · subst e; exact h
          · exact hall.out j hj (by omega))
        have HF : okR (edge s.size k) s[k].toNat = false → Hid (labelB (bl s) = false) := fun h => Lib.hid (by
          rw [← Bool.not_eq_true, HL.out]
          intro ha
          rw [ha k hlt] at h
          cases h)
        have hz : ∃ z : Nat, s.size = z + 1 := ⟨s.size - 1, by omega⟩
        rcases (by omega : k = 0 ∨ (k ≠ 0 ∧ k + 1 = s.size) ∨ (k ≠ 0 ∧ k + 1 ≠ s.size)) with hk0 | hk0 | hk0
        · have he : edge s.size k = true := by unfold edge; rw [hk0]; rfl
          have t0 : ((k : Int) == 0) = true := by rw [hk0]; rfl
          rw [he] at HN HF
          clear he hz
          have HK := Lib.hid hk0
          clear hk0
          rcases (by omega : s[k].toNat ≤ 44 ∨ s[k].toNat = 45 ∨ (46 ≤ s[k].toNat ∧ s[k].toNat ≤ 47) ∨ (48 ≤ s[k].toNat ∧ s[k].toNat ≤ 57) ∨ (58 ≤ s[k].toNat ∧ s[k].toNat ≤ 64) ∨ (65 ≤ s[k].toNat ∧ s[k].toNat ≤ 90) ∨ (91 ≤ s[k].toNat ∧ s[k].toNat ≤ 96) ∨ (97 ≤ s[k].toNat ∧ s[k].toNat ≤ 122) ∨ 123 ≤ s[k].toNat) with g | g | g | g | g | g | g | g | g
          · have HV := Lib.hid (ok_lo true s[k].toNat (Nat.zero_le _) g)
            have tg : ((s[k].toNat : Int) == 45) = false := by rw [beq_eq_false_iff_ne]; omega
            have g1 : (0 : Int) ≤ s[k].toNat := by omega
            have g2 : (s[k].toNat : Int) ≤ 44 := by omega
            have d1 : decide ((s[k].toNat : Int) ≤ 57) = true := decide_eq_true (by omega)
            have d2 : decide ((s[k].toNat : Int) ≤ 122) = true := decide_eq_true (by omega)
            clear g
            have HF2 := HF HV.out
            clear HN HF
            go_wp2_with fail
            go_ret
            rw [HF2.out]
            exact ⟨rfl, rfl⟩
          · have HV := Lib.hid (ok_dash true s[k].toNat g)
            have tg : ((s[k].toNat : Int) == 45) = true := by rw [g]; rfl
            have g1 : (45 : Int) ≤ s[k].toNat := by omega
            have g2 : (s[k].toNat : Int) ≤ 45 := by omega
            have d1 : decide ((s[k].toNat : Int) ≤ 57) = true := decide_eq_true (by omega)
            have d2 : decide ((s[k].toNat : Int) ≤ 122) = true := decide_eq_true (by omega)
            clear g
            have HF2 := HF HV.out
            clear HN HF
            go_wp2_with fail
            go_ret
            rw [HF2.out]
            exact ⟨rfl, rfl⟩
          · have HV := Lib.hid (ok_sep true s[k].toNat g.1 g.2)
            have tg : ((s[k].toNat : Int) == 45) = false := by rw [beq_eq_false_iff_ne]; omega
            have g1 : (46 : Int) ≤ s[k].toNat := by omega
            have g2 : (s[k].toNat : Int) ≤ 47 := by omega
            have d1 : decide ((s[k].toNat : Int) ≤ 57) = true := decide_eq_true (by omega)
            have d2 : decide ((s[k].toNat : Int) ≤ 122) = true := decide_eq_true (by omega)
            clear g
            have HF2 := HF HV.out
            clear HN HF
            go_wp2_with fail
            go_ret
            rw [HF2.out]
            exact ⟨rfl, rfl⟩
          · have HV := Lib.hid (ok_dig true s[k].toNat g.1 g.2)
            have tg : ((s[k].toNat : Int) == 45) = false := by rw [beq_eq_false_iff_ne]; omega
            have g1 : (48 : Int) ≤ s[k].toNat := by omega
            have g2 : (s[k].toNat : Int) ≤ 57 := by omega
            have d1 : decide ((s[k].toNat : Int) ≤ 57) = true := decide_eq_true (by omega)
            have d2 : decide ((s[k].toNat : Int) ≤ 122) = true := decide_eq_true (by omega)
            clear g
            have HN2 := HN HV.out
            clear HN HF
            go_wp2_with fail
            go_roundw
            case rel => exact ⟨k + 1, by omega, by simp, HN2, trivial⟩
            case measure => simp [intOf]; omega
          · have HV := Lib.hid (ok_mid true s[k].toNat g.1 g.2)
            have tg : ((s[k].toNat : Int) == 45) = false := by rw [beq_eq_false_iff_ne]; omega
            have g1 : (58 : Int) ≤ s[k].toNat := by omega
            have g2 : (s[k].toNat : Int) ≤ 64 := by omega
            have d1 : decide ((s[k].toNat : Int) ≤ 57) = false := decide_eq_false (by omega)
            have d2 : decide ((s[k].toNat : Int) ≤ 122) = true := decide_eq_true (by omega)
            clear g
            have HF2 := HF HV.out
            clear HN HF
            go_wp2_with fail
            go_ret
            rw [HF2.out]
            exact ⟨rfl, rfl⟩
          · have HV := Lib.hid (ok_up true s[k].toNat g.1 g.2)
            have tg : ((s[k].toNat : Int) == 45) = false := by rw [beq_eq_false_iff_ne]; omega
            have g1 : (65 : Int) ≤ s[k].toNat := by omega
            have g2 : (s[k].toNat : Int) ≤ 90 := by omega
            have d1 : decide ((s[k].toNat : Int) + 32 ≤ 122) = true := decide_eq_true (by omega)
            clear g
            have HN2 := HN HV.out
            clear HN HF
            go_wp2_with fail
            go_roundw
            case rel => exact ⟨k + 1, by omega, by simp, HN2, trivial⟩
            case measure => simp [intOf]; omega
          · have HV := Lib.hid (ok_mid2 true s[k].toNat g.1 g.2)
            have tg : ((s[k].toNat : Int) == 45) = false := by rw [beq_eq_false_iff_ne]; omega
            have g1 : (91 : Int) ≤ s[k].toNat := by omega
            have g2 : (s[k].toNat : Int) ≤ 96 := by omega
            have d1 : decide ((s[k].toNat : Int) ≤ 57) = false := decide_eq_false (by omega)
            have d2 : decide ((s[k].toNat : Int) ≤ 122) = true := decide_eq_true (by omega)
            clear g
            have HF2 := HF HV.out
            clear HN HF
            go_wp2_with fail
            go_ret
            rw [HF2.out]
            exact ⟨rfl, rfl⟩
          · have HV := Lib.hid (ok_low true s[k].toNat g.1 g.2)
            have tg : ((s[k].toNat : Int) == 45) = false := by rw [beq_eq_false_iff_ne]; omega
            have g1 : (97 : Int) ≤ s[k].toNat := by omega
            have g2 : (s[k].toNat : Int) ≤ 122 := by omega
            have d1 : decide ((s[k].toNat : Int) ≤ 57) = false := decide_eq_false (by omega)
            have d2 : decide ((s[k].toNat : Int) ≤ 122) = true := decide_eq_true (by omega)
            clear g
            have HN2 := HN HV.out
            clear HN HF
            go_wp2_with fail
            go_roundw
            case rel => exact ⟨k + 1, by omega, by simp, HN2, trivial⟩
            case measure => simp [intOf]; omega
          · have HV := Lib.hid (ok_hi true s[k].toNat g (by omega))
            have tg : ((s[k].toNat : Int) == 45) = false := by rw [beq_eq_false_iff_ne]; omega
            have g1 : (123 : Int) ≤ s[k].toNat := by omega
            have g2 : (s[k].toNat : Int) ≤ 255 := by omega
            have d1 : decide ((s[k].toNat : Int) ≤ 57) = false := decide_eq_false (by omega)
            have d2 : decide ((s[k].toNat : Int) ≤ 122) = false := decide_eq_false (by omega)
            clear g
            have HF2 := HF HV.out
            clear HN HF
            go_wp2_with fail
            go_ret
            rw [HF2.out]
            exact ⟨rfl, rfl⟩
        · have he : edge s.size k = true := by unfold edge; rw [Bool.or_eq_true, beq_iff_eq, beq_iff_eq]; omega
          have t0 : ((k : Int) == 0) = false := by rw [beq_eq_false_iff_ne]; omega
          have t1 : ((k : Int) == (s.size : Int) - 1) = true := by rw [beq_iff_eq]; omega
          rw [he] at HN HF
          clear he hz
          have HK := Lib.hid hk0
          clear hk0
          rcases (by omega : s[k].toNat ≤ 44 ∨ s[k].toNat = 45 ∨ (46 ≤ s[k].toNat ∧ s[k].toNat ≤ 47) ∨ (48 ≤ s[k].toNat ∧ s[k].toNat ≤ 57) ∨ (58 ≤ s[k].toNat ∧ s[k].toNat ≤ 64) ∨ (65 ≤ s[k].toNat ∧ s[k].toNat ≤ 90) ∨ (91 ≤ s[k].toNat ∧ s[k].toNat ≤ 96) ∨ (97 ≤ s[k].toNat ∧ s[k].toNat ≤ 122) ∨ 123 ≤ s[k].toNat) with g | g | g | g | g | g | g | g | g
          · have HV := Lib.hid (ok_lo true s[k].toNat (Nat.zero_le _) g)
            have tg : ((s[k].toNat : Int) == 45) = false := by rw [beq_eq_false_iff_ne]; omega
            have g1 : (0 : Int) ≤ s[k].toNat := by omega
            have g2 : (s[k].toNat : Int) ≤ 44 := by omega
            have d1 : decide ((s[k].toNat : Int) ≤ 57) = true := decide_eq_true (by omega)
            have d2 : decide ((s[k].toNat : Int) ≤ 122) = true := decide_eq_true (by omega)
            clear g
            have HF2 := HF HV.out
            clear HN HF
            go_wp2_with fail
            go_ret
            rw [HF2.out]
            exact ⟨rfl, rfl⟩
          · have HV := Lib.hid (ok_dash true s[k].toNat g)
            have tg : ((s[k].toNat : Int) == 45) = true := by rw [g]; rfl
            have g1 : (45 : Int) ≤ s[k].toNat := by omega
            have g2 : (s[k].toNat : Int) ≤ 45 := by omega
            have d1 : decide ((s[k].toNat : Int) ≤ 57) = true := decide_eq_true (by omega)
            have d2 : decide ((s[k].toNat : Int) ≤ 122) = true := decide_eq_true (by omega)
            clear g
            have HF2 := HF HV.out
            clear HN HF
            go_wp2_with fail
            go_ret
            rw [HF2.out]
            exact ⟨rfl, rfl⟩
          · have HV := Lib.hid (ok_sep true s[k].toNat g.1 g.2)
            have tg : ((s[k].toNat : Int) == 45) = false := by rw [beq_eq_false_iff_ne]; omega
            have g1 : (46 : Int) ≤ s[k].toNat := by omega
            have g2 : (s[k].toNat : Int) ≤ 47 := by omega
            have d1 : decide ((s[k].toNat : Int) ≤ 57) = true := decide_eq_true (by omega)
            have d2 : decide ((s[k].toNat : Int) ≤ 122) = true := decide_eq_true (by omega)
            clear g
            have HF2 := HF HV.out
            clear HN HF
            go_wp2_with fail
            go_ret
            rw [HF2.out]
            exact ⟨rfl, rfl⟩
          · have HV := Lib.hid (ok_dig true s[k].toNat g.1 g.2)
            have tg : ((s[k].toNat : Int) == 45) = false := by rw [beq_eq_false_iff_ne]; omega
            have g1 : (48 : Int) ≤ s[k].toNat := by omega
            have g2 : (s[k].toNat : Int) ≤ 57 := by omega
            have d1 : decide ((s[k].toNat : Int) ≤ 57) = true := decide_eq_true (by omega)
            have d2 : decide ((s[k].toNat : Int) ≤ 122) = true := decide_eq_true (by omega)
            clear g
            have HN2 := HN HV.out
            clear HN HF
            go_wp2_with fail
            go_roundw
            case rel => exact ⟨k + 1, by omega, by simp, HN2, trivial⟩
            case measure => simp [intOf]; omega
          · have HV := Lib.hid (ok_mid true s[k].toNat g.1 g.2)
            have tg : ((s[k].toNat : Int) == 45) = false := by rw [beq_eq_false_iff_ne]; omega
            have g1 : (58 : Int) ≤ s[k].toNat := by omega
            have g2 : (s[k].toNat : Int) ≤ 64 := by omega
            have d1 : decide ((s[k].toNat : Int) ≤ 57) = false := decide_eq_false (by omega)
            have d2 : decide ((s[k].toNat : Int) ≤ 122) = true := decide_eq_true (by omega)
            clear g
            have HF2 := HF HV.out
            clear HN HF
            go_wp2_with fail
            go_ret
            rw [HF2.out]
            exact ⟨rfl, rfl⟩
          · have HV := Lib.hid (ok_up true s[k].toNat g.1 g.2)
            have tg : ((s[k].toNat : Int) == 45) = false := by rw [beq_eq_false_iff_ne]; omega
            have g1 : (65 : Int) ≤ s[k].toNat := by omega
            have g2 : (s[k].toNat : Int) ≤ 90 := by omega
            have d1 : decide ((s[k].toNat : Int) + 32 ≤ 122) = true := decide_eq_true (by omega)
            clear g
            have HN2 := HN HV.out
            clear HN HF
            go_wp2_with fail
            go_roundw
            case rel => exact ⟨k + 1, by omega, by simp, HN2, trivial⟩
            case measure => simp [intOf]; omega
          · have HV := Lib.hid (ok_mid2 true s[k].toNat g.1 g.2)
            have tg : ((s[k].toNat : Int) == 45) = false := by rw [beq_eq_false_iff_ne]; omega
            have g1 : (91 : Int) ≤ s[k].toNat := by omega
            have g2 : (s[k].toNat : Int) ≤ 96 := by omega
            have d1 : decide ((s[k].toNat : Int) ≤ 57) = false := decide_eq_false (by omega)
            have d2 : decide ((s[k].toNat : Int) ≤ 122) = true := decide_eq_true (by omega)
            clear g
            have HF2 := HF HV.out
            clear HN HF
            go_wp2_with fail
            go_ret
            rw [HF2.out]
            exact ⟨rfl, rfl⟩
          · have HV := Lib.hid (ok_low true s[k].toNat g.1 g.2)
            have tg : ((s[k].toNat : Int) == 45) = false := by rw [beq_eq_false_iff_ne]; omega
            have g1 : (97 : Int) ≤ s[k].toNat := by omega
            have g2 : (s[k].toNat : Int) ≤ 122 := by omega
            have d1 : decide ((s[k].toNat : Int) ≤ 57) = false := decide_eq_false (by omega)
            have d2 : decide ((s[k].toNat : Int) ≤ 122) = true := decide_eq_true (by omega)
            clear g
            have HN2 := HN HV.out
            clear HN HF
            go_wp2_with fail
            go_roundw
            case rel => exact ⟨k + 1, by omega, by simp, HN2, trivial⟩
            case measure => simp [intOf]; omega
          · have HV := Lib.hid (ok_hi true s[k].toNat g (by omega))
            have tg : ((s[k].toNat : Int) == 45) = false := by rw [beq_eq_false_iff_ne]; omega
            have g1 : (123 : Int) ≤ s[k].toNat := by omega
            have g2 : (s[k].toNat : Int) ≤ 255 := by omega
            have d1 : decide ((s[k].toNat : Int) ≤ 57) = false := decide_eq_false (by omega)
            have d2 : decide ((s[k].toNat : Int) ≤ 122) = false := decide_eq_false (by omega)
            clear g
            have HF2 := HF HV.out
            clear HN HF
            go_wp2_with fail
            go_ret
            rw [HF2.out]
            exact ⟨rfl, rfl⟩
        · have he : edge s.size k = false := by unfold edge; rw [← Bool.not_eq_true, Bool.or_eq_true, beq_iff_eq, beq_iff_eq]; omega
          have t0 : ((k : Int) == 0) = false := by rw [beq_eq_false_iff_ne]; omega
          have t1 : ((k : Int) == (s.size : Int) - 1) = false := by rw [beq_eq_false_iff_ne]; omega
          rw [he] at HN HF
          clear he hz
          have HK := Lib.hid hk0
          clear hk0
          rcases (by omega : s[k].toNat ≤ 44 ∨ s[k].toNat = 45 ∨ (46 ≤ s[k].toNat ∧ s[k].toNat ≤ 47) ∨ (48 ≤ s[k].toNat ∧ s[k].toNat ≤ 57) ∨ (58 ≤ s[k].toNat ∧ s[k].toNat ≤ 64) ∨ (65 ≤ s[k].toNat ∧ s[k].toNat ≤ 90) ∨ (91 ≤ s[k].toNat ∧ s[k].toNat ≤ 96) ∨ (97 ≤ s[k].toNat ∧ s[k].toNat ≤ 122) ∨ 123 ≤ s[k].toNat) with g | g | g | g | g | g | g | g | g
          · have HV := Lib.hid (ok_lo false s[k].toNat (Nat.zero_le _) g)
            have tg : ((s[k].toNat : Int) == 45) = false := by rw [beq_eq_false_iff_ne]; omega
            have g1 : (0 : Int) ≤ s[k].toNat := by omega
            have g2 : (s[k].toNat : Int) ≤ 44 := by omega
            have d1 : decide ((s[k].toNat : Int) ≤ 57) = true := decide_eq_true (by omega)
            have d2 : decide ((s[k].toNat : Int) ≤ 122) = true := decide_eq_true (by omega)
            clear g
            have HF2 := HF HV.out
            clear HN HF
            go_wp2_with fail
            go_ret
            rw [HF2.out]
            exact ⟨rfl, rfl⟩
          · have HV := Lib.hid (ok_dash false s[k].toNat g)
            have tg : ((s[k].toNat : Int) == 45) = true := by rw [g]; rfl
            have g1 : (45 : Int) ≤ s[k].toNat := by omega
            have g2 : (s[k].toNat : Int) ≤ 45 := by omega
            have d1 : decide ((s[k].toNat : Int) ≤ 57) = true := decide_eq_true (by omega)
            have d2 : decide ((s[k].toNat : Int) ≤ 122) = true := decide_eq_true (by omega)
            clear g
            have HN2 := HN HV.out
            clear HN HF
            go_wp2_with fail
            go_roundw
            case rel => exact ⟨k + 1, by omega, by simp, HN2, trivial⟩
            case measure => simp [intOf]; omega
          · have HV := Lib.hid (ok_sep false s[k].toNat g.1 g.2)
            have tg : ((s[k].toNat : Int) == 45) = false := by rw [beq_eq_false_iff_ne]; omega
            have g1 : (46 : Int) ≤ s[k].toNat := by omega
            have g2 : (s[k].toNat : Int) ≤ 47 := by omega
            have d1 : decide ((s[k].toNat : Int) ≤ 57) = true := decide_eq_true (by omega)
            have d2 : decide ((s[k].toNat : Int) ≤ 122) = true := decide_eq_true (by omega)
            clear g
            have HF2 := HF HV.out
            clear HN HF
            go_wp2_with fail
            go_ret
            rw [HF2.out]
            exact ⟨rfl, rfl⟩
          · have HV := Lib.hid (ok_dig false s[k].toNat g.1 g.2)
            have tg : ((s[k].toNat : Int) == 45) = false := by rw [beq_eq_false_iff_ne]; omega
            have g1 : (48 : Int) ≤ s[k].toNat := by omega
            have g2 : (s[k].toNat : Int) ≤ 57 := by omega
            have d1 : decide ((s[k].toNat : Int) ≤ 57) = true := decide_eq_true (by omega)
            have d2 : decide ((s[k].toNat : Int) ≤ 122) = true := decide_eq_true (by omega)
            clear g
            have HN2 := HN HV.out
            clear HN HF
            go_wp2_with fail
            go_roundw
            case rel => exact ⟨k + 1, by omega, by simp, HN2, trivial⟩
            case measure => simp [intOf]; omega
          · have HV := Lib.hid (ok_mid false s[k].toNat g.1 g.2)
            have tg : ((s[k].toNat : Int) == 45) = false := by rw [beq_eq_false_iff_ne]; omega
            have g1 : (58 : Int) ≤ s[k].toNat := by omega
            have g2 : (s[k].toNat : Int) ≤ 64 := by omega
            have d1 : decide ((s[k].toNat : Int) ≤ 57) = false := decide_eq_false (by omega)
            have d2 : decide ((s[k].toNat : Int) ≤ 122) = true := decide_eq_true (by omega)
            clear g
            have HF2 := HF HV.out
            clear HN HF
            go_wp2_with fail
            go_ret
            rw [HF2.out]
            exact ⟨rfl, rfl⟩
          · have HV := Lib.hid (ok_up false s[k].toNat g.1 g.2)
            have tg : ((s[k].toNat : Int) == 45) = false := by rw [beq_eq_false_iff_ne]; omega
            have g1 : (65 : Int) ≤ s[k].toNat := by omega
            have g2 : (s[k].toNat : Int) ≤ 90 := by omega
            have d1 : decide ((s[k].toNat : Int) + 32 ≤ 122) = true := decide_eq_true (by omega)
            clear g
            have HN2 := HN HV.out
            clear HN HF
            go_wp2_with fail
            go_roundw
            case rel => exact ⟨k + 1, by omega, by simp, HN2, trivial⟩
            case measure => simp [intOf]; omega
          · have HV := Lib.hid (ok_mid2 false s[k].toNat g.1 g.2)
            have tg : ((s[k].toNat : Int) == 45) = false := by rw [beq_eq_false_iff_ne]; omega
            have g1 : (91 : Int) ≤ s[k].toNat := by omega
            have g2 : (s[k].toNat : Int) ≤ 96 := by omega
            have d1 : decide ((s[k].toNat : Int) ≤ 57) = false := decide_eq_false (by omega)
            have d2 : decide ((s[k].toNat : Int) ≤ 122) = true := decide_eq_true (by omega)
            clear g
            have HF2 := HF HV.out
            clear HN HF
            go_wp2_with fail
            go_ret
            rw [HF2.out]
            exact ⟨rfl, rfl⟩
          · have HV := Lib.hid (ok_low false s[k].toNat g.1 g.2)
            have tg : ((s[k].toNat : Int) == 45) = false := by rw [beq_eq_false_iff_ne]; omega
            have g1 : (97 : Int) ≤ s[k].toNat := by omega
            have g2 : (s[k].toNat : Int) ≤ 122 := by omega
            have d1 : decide ((s[k].toNat : Int) ≤ 57) = false := decide_eq_false (by omega)
            have d2 : decide ((s[k].toNat : Int) ≤ 122) = true := decide_eq_true (by omega)
            clear g
            have HN2 := HN HV.out
            clear HN HF
            go_wp2_with fail
            go_roundw
            case rel => exact ⟨k + 1, by omega, by simp, HN2, trivial⟩
            case measure => simp [intOf]; omega
          · have HV := Lib.hid (ok_hi false s[k].toNat g (by omega))
            have tg : ((s[k].toNat : Int) == 45) = false := by rw [beq_eq_false_iff_ne]; omega
            have g1 : (123 : Int) ≤ s[k].toNat := by omega
            have g2 : (s[k].toNat : Int) ≤ 255 := by omega
            have d1 : decide ((s[k].toNat : Int) ≤ 57) = false := decide_eq_false (by omega)
            have d2 : decide ((s[k].toNat : Int) ≤ 122) = false := decide_eq_false (by omega)
            clear g
            have HF2 := HF HV.out
            clear HN HF
            go_wp2_with fail
            go_ret
            rw [HF2.out]
            exact ⟨rfl, rfl⟩
      · have HE : Hid (labelB (bl s) = true) := Lib.hid (HL.out.2 fun j hj => hall.out j hj (by omega))
        go_wp2_with fail
        go_ret
        rw [HE.out]
        exact ⟨rfl, rfl⟩
end Go.Proofs.YtegbkfloiiilfaaGreatDoor.Addr
