/-
  What the laws of the log share: acts, light lists, a log made, works, run.
-/
import Derived.Test.YtldmplfgnpepjaaDoorWalNets
import Derived.Test.YtldmplfgnpepjaaDoorWalLog
import Derived.Test.YtldmplfgnpepjaaDoorWalWalks
import Derived.Laws.ResultCell

/-
  What the laws of the log share: numbers below one another, acts, light lists of acts.
-/
namespace Go.Proofs.YtldmplfgnpepjaaDoor.Wal
open Go Go.RowKit
open Go.Proofs.YtldmplfgnpepjaaDoor.Nets (Reads Tab Small bl ba)

theorem ret_int {k : IntKind} {a b : Int} (h : a = b) : Ending.returned (.int k a) = .returned (.int k b) := by rw [h]
theorem below_any (x : Int) (n : Nat) (w : World) (_h1 : -9223372036854775808 ≤ x) (_h2 : x ≤ 9223372036854775807) (hn : 4 ≤ n) (hn2 : n ≤ 100000) :
    Calls Tryd.prog 29 #[.int .i64 x, .int .i64 n] w fun e w' => e = .returned (.int .i64 (x % (n : Int))) ∧ w' = w := by
  have hE : x % (n : Int) = if x.tmod n < 0 then x.tmod n + n else x.tmod n := by
    have hp := Int.emod_nonneg x (show (n : Int) ≠ 0 by omega)
    have hl := Int.emod_lt_of_pos x (show (0 : Int) < n by omega)
    have h : x.tmod (n : Int) = x % (n : Int) - ((if 0 ≤ x ∨ (n : Int) ∣ x then 0 else Int.natAbs (n : Int) : Nat) : Int) := Int.tmod_eq_emod
    by_cases hc : 0 ≤ x ∨ (n : Int) ∣ x
    · rw [if_pos hc] at h
      rw [if_neg (by omega)]
      omega
    · rw [if_neg hc, Int.natAbs_natCast] at h
      rw [if_pos (by omega)]
      omega
  have hl := Int.tmod_lt_of_pos x (show (0 : Int) < n by omega)
  have hg : -(n : Int) < x.tmod n := Int.lt_tmod_of_pos x (by omega)
  have HE := Lib.hid hE
  clear hE
  go_enter Tryd.func29, Tryd.ntmps29
  go_wp2
  · go_ret
    exact ⟨ret_int (by rw [HE.out, if_pos (by assumption)]), rfl⟩
  · go_ret
    exact ⟨ret_int (by rw [HE.out, if_neg (by omega)]), rfl⟩

/-- An act of the laws. -/
structure Ak where
  kind : Int
  s : ByteArray
  lv : Value
  ls : List ByteArray
  is : Bool
abbrev akT : TypeId := 34
def aC (a : Ak) : List Value := [.int .i64 a.kind, .string a.s, a.lv, .bool a.is]
structure OkA (w : World) (a : Ak) : Prop where
  s : a.s.size ≤ 9223372036854775807
  reads : Reads w a.lv a.ls
  each : ∀ s ∈ a.ls, s.size ≤ 9223372036854775807
  few : a.ls.length ≤ 9223372036854775807
theorem OkA.below {w w' : World} {a : Ak} (h : OkA w a) (hb : Below w.heap.size w w') : OkA w' a := ⟨h.s, h.reads.below hb, h.each, h.few⟩
def ReadsA (w : World) (v : Value) (es : List Ak) : Prop :=
  (∃ a cap, v = .slice a 0 cap ∧ es = []) ∨
  (0 < es.length ∧ ∃ b off cap, v = .slice (some ⟨b, off, none⟩) es.length cap ∧ b < w.heap.size ∧ ∀ i a, es[i]? = some a → w.rangeAt b (off + i * 4) (aC a))
theorem ReadsA.shape {w : World} {v : Value} {es : List Ak} (h : ReadsA w v es) : ∃ a cap, v = .slice a es.length cap ∧ (0 < es.length → ∃ b off, a = some ⟨b, off, none⟩ ∧ b < w.heap.size ∧ ∀ i x, es[i]? = some x → w.rangeAt b (off + i * 4) (aC x)) := by
  rcases h with ⟨a, cap, rfl, rfl⟩ | ⟨h0, b, off, cap, rfl, h1, h2⟩
  · exact ⟨a, cap, rfl, fun h => by simp at h⟩
  · exact ⟨_, cap, rfl, fun _ => ⟨b, off, rfl, h1, h2⟩⟩
theorem range_below {w w' : World} {b o : Nat} {cs : List Value} (h : w.rangeAt b o cs) (hl : b < w.heap.size) (hb : Below w.heap.size w w') : w'.rangeAt b o cs := fun j v hv => by
  rw [hb.cell (p := ⟨b, o + j, none⟩) hl]
  exact h j v hv
theorem ReadsA.below {w w' : World} {v : Value} {es : List Ak} (h : ReadsA w v es) (hb : Below w.heap.size w w') : ReadsA w' v es := by
  rcases h with h | ⟨h0, b, off, cap, rfl, h1, h2⟩
  · exact .inl h
  · exact .inr ⟨h0, b, off, cap, rfl, by have := hb.size; omega, fun i a ha => range_below (h2 i a ha) h1 hb⟩
theorem four {w : World} {b o : Nat} {e : Ak} (h : w.rangeAt b o (aC e)) : w.cell? ⟨b, o, none⟩ = some (.int .i64 e.kind) ∧ w.cell? ⟨b, o + 1, none⟩ = some (.string e.s) ∧ w.cell? ⟨b, o + 2, none⟩ = some e.lv ∧ w.cell? ⟨b, o + 3, none⟩ = some (.bool e.is) :=
  ⟨h 0 _ rfl, h 1 _ rfl, h 2 _ rfl, h 3 _ rfl⟩

/-! Light lists, light acts. -/
theorem take_next {α : Type} {p : α → Prop} {q : List α} {k : Nat} {e : α} (hk : q[k]? = some e) (hn : ∀ x ∈ q.take k, p x) (he : p e) : ∀ x ∈ q.take (k + 1), p x := by
  rw [List.take_add_one, hk]
  intro x hx
  rcases List.mem_append.1 hx with hx | hx
  · exact hn x hx
  · simp at hx
    rw [hx]; exact he
def lightB (ss : List ByteArray) : Bool := decide (ss.length ≤ 20 ∧ ∀ s ∈ ss, s.size ≤ 300)
theorem lightB_far {ss : List ByteArray} (h : 20 < ss.length) : lightB ss = false := decide_eq_false (by omega)
theorem lightB_bad {ss : List ByteArray} {s : ByteArray} (h : s ∈ ss) (hs : 300 < s.size) : lightB ss = false := decide_eq_false (by rintro ⟨_, h2⟩; have := h2 s h; omega)
theorem lightB_good {ss : List ByteArray} (h1 : ss.length ≤ 20) (h2 : ∀ s ∈ ss, s.size ≤ 300) : lightB ss = true := decide_eq_true ⟨h1, h2⟩
theorem lightB_small {ss : List ByteArray} (h : lightB ss = true) : ss.length ≤ 20 ∧ ∀ s ∈ ss, s.size ≤ 300 := of_decide_eq_true h
set_option maxHeartbeats 1000000 in
theorem light_any (v : Value) (ss : List ByteArray) (w : World) (hr : Reads w v ss) (hz : ∀ s ∈ ss, s.size ≤ 9223372036854775807) (hm : ss.length ≤ 9223372036854775807) :
    Calls Tryd.prog 33 #[v, .int .i64 20, .int .i64 300] w fun e w' => e = .returned (.bool (lightB ss)) ∧ w = w' := by
  rcases hr with ⟨a, cap, rfl, rfl⟩ | ⟨h0, b, off, cap, rfl, h1, h2, h3, h4⟩
  · go_enter Tryd.func33, Tryd.ntmps33
    go_wp2_with fail
    go_loopw [7] (fun i wr => i = .int .i64 0 ∧ wr = w) (fun i _ => 0 - (intOf i).toNat)
    case atStart => exact ⟨rfl, rfl⟩
    case round =>
      obtain ⟨rfl, rfl⟩ := hrel
      go_wp2_with fail
      go_ret
      exact ⟨rfl, rfl⟩
  · have HL := Lib.hid h4
    have HZ := Lib.hid hz
    clear h4 hz h1 h2
    go_enter Tryd.func33, Tryd.ntmps33
    go_wp2_with fail
    go_loopw [7] (fun i wr => ∃ k : Nat, k ≤ ss.length ∧ k ≤ 21 ∧ i = .int .i64 k ∧ (∀ s ∈ ss.take k, s.size ≤ 300) ∧ wr = w) (fun i _ => ss.length - (intOf i).toNat)
    case atStart => exact ⟨0, Nat.zero_le _, by omega, rfl, by simp, rfl⟩
    case round =>
      obtain ⟨k, hk, hk2, rfl, hn, rfl⟩ := hrel
      have HN := Lib.hid hn
      clear hn
      by_cases hlt : k < ss.length
      · by_cases hk3 : k ≤ 20
        · have hc := HL.out k hlt
          obtain ⟨s, hs⟩ : ∃ s, ss[k]? = some s := ⟨ss[k], List.getElem?_eq_getElem hlt⟩
          have hmem : s ∈ ss := List.mem_of_getElem? hs
          rw [List.getD_eq_getElem?_getD, hs] at hc
          simp only [Option.getD_some] at hc
          have hsz := HZ.out s hmem
          have HS := Lib.hid (And.intro hs hmem)
          clear hs hmem
          by_cases hg : 300 < s.size
          · have HB := Lib.hid (lightB_bad HS.out.2 hg)
            go_wp2_with fail
            go_ret
            exact ⟨by rw [HB.out]; rfl, rfl⟩
          · have HT := Lib.hid (take_next (p := fun s : ByteArray => s.size ≤ 300) HS.out.1 HN.out (by omega))
            go_wp2_with fail
            go_roundw
            case rel => exact ⟨k + 1, by omega, by omega, by simp, HT.out, trivial⟩
            case measure => simp [intOf]; omega
        · have HB := Lib.hid (lightB_far (ss := ss) (by omega))
          have hd : decide ((ss.length : Int) ≤ 20) = false := decide_eq_false (by omega)
          go_wp2_with fail
          go_ret
          exact ⟨by rw [HB.out]; rfl, rfl⟩
      · have hq : k = ss.length := by omega
        subst hq
        have HN2 := HN.out
        rw [List.take_length] at HN2
        by_cases h20 : ss.length ≤ 20
        · have HB := Lib.hid (lightB_good h20 HN2)
          have hd : decide ((ss.length : Int) ≤ 20) = true := decide_eq_true (by omega)
          go_wp2_with fail
          go_ret
          exact ⟨by rw [HB.out]; rfl, rfl⟩
        · have HB := Lib.hid (lightB_far (ss := ss) (by omega))
          have hd : decide ((ss.length : Int) ≤ 20) = false := decide_eq_false (by omega)
          go_wp2_with fail
          go_ret
          exact ⟨by rw [HB.out]; rfl, rfl⟩
def lightE (e : Ak) : Bool := decide (e.s.size ≤ 300) && lightB e.ls
def lightS (es : List Ak) : Bool := (es.take 40).all lightE
theorem lightS_bad {es : List Ak} {k : Nat} {e : Ak} (hk : es[k]? = some e) (h40 : k < 40) (h : lightE e = false) : lightS es = false := by
  unfold lightS
  rw [List.all_eq_false]
  refine ⟨e, ?_, by simp [h]⟩
  rw [List.mem_iff_getElem?]
  exact ⟨k, by rw [List.getElem?_take_of_lt h40]; exact hk⟩
theorem lightS_good {es : List Ak} {k : Nat} (h : ∀ e ∈ es.take k, lightE e = true) (hk : k = es.length ∨ k = 40) : lightS es = true := by
  unfold lightS
  rw [List.all_eq_true]
  intro e he
  refine h e ?_
  rcases hk with rfl | rfl
  · rw [List.take_length]; exact List.mem_of_mem_take he
  · exact he
/-- What is known of a light act. -/
theorem lightS_at {es : List Ak} (h : lightS es = true) {k : Nat} {e : Ak} (hk : es[k]? = some e) (h40 : k < 40) : e.s.size ≤ 300 ∧ e.ls.length ≤ 20 ∧ ∀ s ∈ e.ls, s.size ≤ 300 := by
  unfold lightS at h
  rw [List.all_eq_true] at h
  have h1 := h e (by rw [List.mem_iff_getElem?]; exact ⟨k, by rw [List.getElem?_take_of_lt h40]; exact hk⟩)
  unfold lightE at h1
  rw [Bool.and_eq_true, decide_eq_true_eq] at h1
  exact ⟨h1.1, lightB_small h1.2⟩
set_option maxHeartbeats 2000000 in
theorem lights_any (v : Value) (es : List Ak) (w : World) (h : ReadsA w v es) (ho : ∀ e ∈ es, OkA w e) (hm : es.length ≤ 9223372036854775807) :
    Calls Tryd.prog 7 #[v] w fun e w' => e = .returned (.bool (lightS es)) ∧ w' = w := by
  rcases h with ⟨a, cap, rfl, rfl⟩ | ⟨h0, b, off, cap, rfl, h3, h4⟩
  · go_enter Tryd.func7, Tryd.ntmps7
    go_wp2_with fail
    go_loopw [3] (fun i wr => i = .int .i64 0 ∧ wr = w) (fun i _ => 0 - (intOf i).toNat)
    case atStart => exact ⟨rfl, rfl⟩
    case round =>
      obtain ⟨rfl, rfl⟩ := hrel
      go_wp2_with fail
      go_ret
      exact ⟨rfl, rfl⟩
  · have HC := Lib.hid h4
    have HO := Lib.hid ho
    clear h4 ho
    go_enter Tryd.func7, Tryd.ntmps7
    go_wp2_with fail
    go_loopw [3] (fun i wr => ∃ k : Nat, k ≤ es.length ∧ k ≤ 40 ∧ i = .int .i64 k ∧ (∀ e ∈ es.take k, lightE e = true) ∧ wr = w) (fun i _ => es.length - (intOf i).toNat)
    case atStart => exact ⟨0, Nat.zero_le _, by omega, rfl, by simp, rfl⟩
    case round =>
      obtain ⟨k, hk, hk2, rfl, hn, rfl⟩ := hrel
      have HN := Lib.hid hn
      clear hn
      by_cases hlt : k < es.length ∧ k < 40
      · obtain ⟨e, hke⟩ : ∃ e, es[k]? = some e := ⟨es[k], List.getElem?_eq_getElem hlt.1⟩
        have hl1 := hlt.1
        have hl2 := hlt.2
        have hoe := HO.out e (List.mem_of_getElem? hke)
        obtain ⟨c0, c1, c2, c3⟩ := four (HC.out k e hke)
        have HK := Lib.hid (And.intro hke hoe)
        have s1 := hoe.s
        clear hke hoe hlt
        by_cases g1 : 300 < e.s.size
        · have HB := Lib.hid (lightS_bad HK.out.1 hl2 (by unfold lightE; rw [decide_eq_false (by omega)]; rfl))
          go_wp2_with fail
          go_ret
          exact ⟨by rw [HB.out]; rfl, rfl⟩
        · have HLC := Lib.hid (light_any e.lv e.ls _ HK.out.2.reads HK.out.2.each HK.out.2.few)
          cases hb : lightB e.ls
          · have HB := Lib.hid (lightS_bad HK.out.1 hl2 (by unfold lightE; rw [hb]; simp))
            go_wp2_with fail
            refine HLC.out.mono ?_
            rintro e' w' ⟨rfl, rfl⟩
            rw [hb]
            go_wp2_with fail
            go_ret
            exact ⟨by rw [HB.out]; rfl, rfl⟩
          · have HT := Lib.hid (take_next (p := fun e : Ak => lightE e = true) HK.out.1 HN.out (by unfold lightE; rw [hb, decide_eq_true (by omega)]; rfl))
            go_wp2_with fail
            refine HLC.out.mono ?_
            rintro e' w' ⟨rfl, rfl⟩
            rw [hb]
            go_wp2_with fail
            go_roundw
            case rel => exact ⟨k + 1, by omega, by omega, by simp, HT.out, trivial⟩
            case measure => simp [intOf]; omega
      · have HB := Lib.hid (lightS_good HN.out (by omega))
        by_cases h40 : k < es.length
        · have h41 : ¬ k < 40 := by omega
          go_wp2_with fail
          go_ret
          exact ⟨by rw [HB.out]; rfl, rfl⟩
        · go_wp2_with fail
          go_ret
          exact ⟨by rw [HB.out]; rfl, rfl⟩
end Go.Proofs.YtldmplfgnpepjaaDoor.Wal

/-
  What the laws of the log share, second part: lists held beside a log; a disk cut, filled, crashed beneath a log.
-/
namespace Go.Proofs.YtldmplfgnpepjaaDoor.Wal
open Go Go.RowKit
open Go.Proofs.YtldmplfgnpepjaaDoor.Disk
open Go.Proofs.YtldmplfgnpepjaaDoor.Nets (Reads Tab Small bl ba)

/-- A list that reads so, in a block that is none of these. -/
def Rd (F : Nat → Prop) (w : World) (v : Value) (ss : List ByteArray) : Prop := Reads w v ss ∧ (0 < ss.length → ∀ b, v.ownBlock = some b → b < w.heap.size ∧ ¬ F b)
theorem Rd.nil {F : Nat → Prop} {w : World} : Rd F w (.slice none 0 0) [] := ⟨.inl ⟨none, 0, rfl, rfl⟩, fun h => by simp at h⟩
theorem Rd.frame {F F' G : Nat → Prop} {w w' : World} {v : Value} {ss : List ByteArray} (h : Rd F w v ss) (hf : Fr G w w') (hG : ∀ b, G b → F b) (hF : ∀ b, F' b → F b ∨ w.heap.size ≤ b) : Rd F' w' v ss := by
  obtain ⟨h1, h2⟩ := h
  rcases h1 with ⟨a, cap, rfl, rfl⟩ | ⟨h0, b, off, cap, rfl, k1, k2, k3, k4⟩
  · exact ⟨.inl ⟨a, cap, rfl, rfl⟩, fun h => by simp at h⟩
  · obtain ⟨e1, e2⟩ := h2 h0 b rfl
    refine ⟨.inr ⟨h0, b, off, cap, rfl, k1, k2, Nat.lt_of_lt_of_le k3 hf.size, fun i hi => ?_⟩, fun _ b' hb => ?_⟩
    · rw [World.cell?_of_block (w := w) (hf.block b k3 fun e => e2 (hG b e))]
      exact k4 i hi
    · obtain rfl : b = b' := by simpa [Value.ownBlock] using hb
      refine ⟨Nat.lt_of_lt_of_le k3 hf.size, fun e => ?_⟩
      rcases hF b e with e | e
      · exact e2 e
      · omega
theorem Rd.below {F : Nat → Prop} {w w' : World} {v : Value} {ss : List ByteArray} (h : Rd F w v ss) (hb : Below w.heap.size w w') (_hF : ∀ b, F b → b < w.heap.size ∨ True) : Rd F w' v ss :=
  ⟨h.1.below hb, fun h0 b e => ⟨Nat.lt_of_lt_of_le (h.2 h0 b e).1 hb.size, (h.2 h0 b e).2⟩⟩
theorem Rd.mono {F F' : Nat → Prop} {w : World} {v : Value} {ss : List ByteArray} (h : Rd F w v ss) (hF : ∀ b, b < w.heap.size → F' b → F b) : Rd F' w v ss :=
  ⟨h.1, fun h0 b e => ⟨(h.2 h0 b e).1, fun e2 => (h.2 h0 b e).2 (hF b (h.2 h0 b e).1 e2)⟩⟩
/-- A list of its own. -/
theorem Rd.owns {F : Nat → Prop} {w : World} {B : Nat} {v : Value} {ss : List ByteArray} (h : w.ownsRow B strT 1 v ss.length (ss.map Value.string)) (hF : ∀ b, v.ownBlock = some b → ¬ F b) : Rd F w v ss :=
  ⟨Nets.reads_owns h, fun _ b e => ⟨(h.lt b e).2, hF b e⟩⟩
/-- A list that was there before the log. -/
theorem Rd.old {F : Nat → Prop} {w : World} {B : Nat} {v : Value} {ss : List ByteArray} (h : Reads w v ss) (hv : ∀ b, v.ownBlock = some b → 0 < ss.length → b < B) (hB : B ≤ w.heap.size) (hF : ∀ b, F b → B ≤ b) : Rd F w v ss :=
  ⟨h, fun h0 b e => ⟨Nat.lt_of_lt_of_le (hv b e h0) hB, fun e2 => by have := hF b e2; have := hv b e h0; omega⟩⟩
theorem reads_lt {w : World} {v : Value} {ss : List ByteArray} (h : Reads w v ss) : ∀ b, v.ownBlock = some b → 0 < ss.length → b < w.heap.size := by
  rcases h with ⟨a, cap, rfl, rfl⟩ | ⟨h0, b, off, cap, rfl, k1, k2, k3, k4⟩
  · intro b _ h; simp at h
  · intro b' hb _
    obtain rfl : b = b' := by simpa [Value.ownBlock] using hb
    exact k3

/-! A list copied: 'append([]string{}, l...)'. -/
theorem append_empty (w : World) (b cap : Nat) : (Builtin.append_ #[26, 26] 26 #[.slice (some ⟨b, 0, none⟩) 0 0, .slice none 0 cap]).run Tryd.prog w = .ok (.slice (some ⟨b, 0, none⟩) 0 0) w := by kernel_rfl
theorem append_made (w : World) (v : Value) (ss : List ByteArray) (hr : Reads w v ss) (hl : ss.length ≤ 1000000) :
    ∃ v' w', (Builtin.append_ #[26, 26] 26 #[.slice (some ⟨w.heap.size, 0, none⟩) 0 0, v]).run Tryd.prog (w.alloc (.cells #[] strT)) = .ok v' w' ∧ w'.ownsRow w.heap.size strT 1 v' ss.length (ss.map Value.string) ∧ Below w.heap.size w w' := by
  have h0 : (w.alloc (.cells #[] strT)).ownsRow w.heap.size strT 1 (.slice (some ⟨w.heap.size, 0, none⟩) 0 0) ([] : List ByteArray).length (([] : List ByteArray).map Value.string) :=
    ⟨by simp, .inr ⟨w.heap.size, 0, #[], rfl, Nat.le_refl _, heap_alloc_new _ _, Nat.le_refl _, by decide, by simp, by simp⟩⟩
  have hb : Below w.heap.size w (w.alloc (.cells #[] strT)) := (Below.refl _ _).alloc (Nat.le_refl _) _
  have hs : w.heap.size ≤ (w.alloc (.cells #[] strT)).heap.size := by simp
  have hr' := hr.below hb
  obtain ⟨v', w', h1, h2, h3, h4⟩ := append_texts (w.alloc (.cells #[] strT)) w.heap.size _ v [] ss h0 hr' (by simp) hl hs
  exact ⟨v', w', h1, by simpa using h2, hb.grown h3 hs (fun k hk => (h0.lt k hk).1)⟩

/-! The disk beneath a log. -/
section
variable {w : World} {k : Wk} {S : St} {L : Wl} {h : Nat} {gs : List Grp}
theorem Has.cut (hh : Has S h gs) (x : Int) : Has (cutS S x) h gs := ⟨⟨hh.clean.cache, hh.clean.off⟩, hh.lg⟩
theorem Has.fill (hh : Has S h gs) (x : Bool) : Has (fillS S x) h gs := ⟨⟨hh.clean.cache, hh.clean.off⟩, hh.lg⟩
theorem Has.crash (hh : Has S h gs) (ks : List Bool) (torn : Int) : Has (crashS S ks torn) h gs := by
  refine ⟨crash_clean _ _ _, ?_⟩
  rw [crash_len, hh.clean.crash]
  exact hh.lg
theorem Either.crash {a b : List Grp} (hh : Either S a b) (ks : List Bool) (torn : Int) : ∃ h gs, Has (crashS S ks torn) h gs ∧ (gs = a ∨ gs = b) := by
  obtain ⟨h, gs, hl, he⟩ := hh.lg ks torn
  exact ⟨h, gs, ⟨crash_clean _ _ _, by rw [crash_len]; exact hl⟩, he⟩
theorem cutW (hl : Log w k S L) (x : Int) (h1 : -9223372036854775808 ≤ x) (h2 : x ≤ 9223372036854775807) :
    Calls Tryd.prog 25 #[ptr k.d.pb, .int .i64 x] w fun e w' => e = .returned (.tuple #[]) ∧ Done w k (cutS S x) L w' := by
  refine (cutIs_any hl.disk x h1 h2).mono fun e w' hh => ?_
  obtain ⟨rfl, hL⟩ := hh
  obtain ⟨cv', hl', hs⟩ := hl.left hL
  exact ⟨rfl, _, hl', hs⟩
theorem fillW (hl : Log w k S L) (x : Bool) :
    Calls Tryd.prog 15 #[ptr k.d.pb, .bool x] w fun e w' => e = .returned (.tuple #[]) ∧ Done w k (fillS S x) L w' := by
  refine (fillIs_any hl.disk x).mono fun e w' hh => ?_
  obtain ⟨rfl, hL⟩ := hh
  obtain ⟨cv', hl', hs⟩ := hl.left hL
  exact ⟨rfl, _, hl', hs⟩
end
end Go.Proofs.YtldmplfgnpepjaaDoor.Wal

/-
  What the laws of the log share, third part: the document's log, new; a log made.
-/
namespace Go.Proofs.YtldmplfgnpepjaaDoor.Wal
open Go Go.RowKit
open Go.Proofs.YtldmplfgnpepjaaDoor.Disk
open Go.Proofs.YtldmplfgnpepjaaDoor.Nets (Reads Tab Small bl ba)

abbrev qT : TypeId := 28
/-- The document's log: the bytes of a half, the half, the bytes of its frames, its texts, what waits. -/
abbrev qC (n h : Int) (s : ByteArray) (tv wv : Value) (f : Bool) : Array Value := #[.int .i64 n, .int .i64 h, .string s, tv, wv, .bool f]
theorem sizeQ : (Tryd.prog.info? 28).map (·.size) = some 6 := by kernel_rfl
theorem results_row3 {P : Program} {fn : Func} {p u u' : Tmp} {ty : TypeId} (h : fn.results = #[.tmp u, .tmp u', .cell p ty]) (tmps : Array Value) (w : World) (g : Nat) (t : TypeId) (cs : Array Value) (fr : Nat × Nat) (d : TypeDesc)
    (hp : tmps.getD p undef = .pointer (some ⟨g, 0, none⟩)) (hg : w.heap[g]? = some (.cells cs t fr))
    (hu : P.underlying ty = some d) (hd : (match d with | .struct _ | .array _ _ => true | _ => false) = true) (hi : (P.info? ty).map (·.size) = some cs.size) :
    (results fn tmps).run P w = .ok (.tuple #[tmps.getD u undef, tmps.getD u' undef, .agg cs]) w := by
  have hp' : tmps[p]?.getD undef = .pointer (some ⟨g, 0, none⟩) := by simpa using hp
  simp [results, h, hp', asAddr, run_loadVar_row w g t ty cs fr d hg hu hd hi]
theorem setRow_lies {w : World} {b : Nat} {cs : Array Value} {t : TypeId} (h : Lies w b cs t) (cs' : Array Value) : Lies (w.setRow b cs') b cs' t := setRow_heap w b cs cs' t (0, 0) h
theorem fr_row (w : World) (b : Nat) (cs : Array Value) : Fr (fun k => k = b) w (w.setRow b cs) :=
  ⟨rfl, rfl, rfl, by simp, fun k _ hk => setRow_other w b k cs hk⟩
abbrev fill6 (w : World) (b : Nat) (a0 a1 a2 a3 a4 a5 : Value) : World :=
  (((((w.setCell ⟨b, 0, none⟩ a0).setCell ⟨b, 1, none⟩ a1).setCell ⟨b, 2, none⟩ a2).setCell ⟨b, 3, none⟩ a3).setCell ⟨b, 4, none⟩ a4).setCell ⟨b, 5, none⟩ a5
theorem lies_fill6 {w : World} {b : Nat} {z0 z1 z2 z3 z4 z5 : Value} {t : TypeId} (h : Lies w b #[z0, z1, z2, z3, z4, z5] t) (a0 a1 a2 a3 a4 a5 : Value) : Lies (fill6 w b a0 a1 a2 a3 a4 a5) b #[a0, a1, a2, a3, a4, a5] t :=
  (((((h.set 0 a0).set 1 a1).set 2 a2).set 3 a3).set 4 a4).set 5 a5
theorem fr_fill6 (w : World) (b : Nat) (a0 a1 a2 a3 a4 a5 : Value) : Fr (fun k => k = b) w (fill6 w b a0 a1 a2 a3 a4 a5) := by
  have e : ∀ {u v : World} {i : Nat} {x : Value}, Fr (fun k => k = b) u v → Fr (fun k => k = b) u (v.setCell ⟨b, i, none⟩ x) := fun h => Fr.setCell (F := fun k => k = b) h (fun _ => rfl) _
  exact e (e (e (e (e (e (Fr.refl _ _))))))
theorem six {w : World} {b : Nat} {z0 z1 z2 z3 z4 z5 : Value} {t : TypeId} (h : Lies w b #[z0, z1, z2, z3, z4, z5] t) : w.cell? ⟨b, 0, none⟩ = some z0 ∧ w.cell? ⟨b, 1, none⟩ = some z1 ∧ w.cell? ⟨b, 2, none⟩ = some z2 ∧ w.cell? ⟨b, 3, none⟩ = some z3 ∧ w.cell? ⟨b, 4, none⟩ = some z4 ∧ w.cell? ⟨b, 5, none⟩ = some z5 :=
  ⟨h.cell 0, h.cell 1, h.cell 2, h.cell 3, h.cell 4, h.cell 5⟩
theorem sec_div {n : Nat} (h : 1 ≤ n) : ((n : Int) - 1).tdiv 2 = (sec n : Int) := by
  unfold sec
  rw [show ((n : Int) - 1) = ((n - 1 : Nat) : Int) by omega, Int.tdiv_eq_ediv_of_nonneg (by omega)]
  omega
set_option maxHeartbeats 1000000 in
theorem newR_any (w : World) (n z : Nat) (h1 : 1 ≤ n) (h2 : n ≤ 40) (h3 : z ≤ 64) :
    Calls Tryd.prog 32 #[.int .i64 n, .int .i64 z] w fun e w' => e = .returned (.agg (qC ((sec n * z : Nat) : Int) 0 ⟨#[]⟩ (.slice none 0 0) (.slice none 0 0) false)) ∧ Below w.heap.size w w' := by
  have hd := sec_div h1
  have hb : sec n * z ≤ 20 * 64 := Nat.mul_le_mul (by unfold sec; omega) h3
  have hc : ((sec n : Int) * (z : Int)) = ((sec n * z : Nat) : Int) := by rw [Int.natCast_mul]
  have hs : sec n ≤ 20 := by unfold sec; omega
  generalize sec n = q at *
  generalize q * z = m at *
  go_enter Tryd.func32, Tryd.ntmps32
  go_wp2_with fail
  exact bodyPost_ret (v := .agg (qC (m : Int) 0 ⟨#[]⟩ (.slice none 0 0) (.slice none 0 0) false)) (results_cell_row Tryd.results32 _ _ w.heap.size qT _ (0, 0) _ rfl (new_at rfl) Tryd.underlying28 rfl sizeQ) rfl ⟨rfl, (Below.refl _ _).alloc (Nat.le_refl _) _⟩
/-- A log that was made. -/
def MadeOut (w : World) (e : Ending) (w' : World) : Prop := ∃ (k : Wk) (n z m : Nat), e = .returned (.tuple #[ptr k.pw, ptr k.d.pb, .agg (qC (m : Int) 0 ⟨#[]⟩ (.slice none 0 0) (.slice none 0 0) false)]) ∧ m = sec n * z ∧
  8 ≤ n ∧ n ≤ 40 ∧ 16 ≤ z ∧ z ≤ 64 ∧ Log w' k (fmtS n z) ⟨0, 0, []⟩ ∧ w.heap.size ≤ k.d.B ∧ Below w.heap.size w w'
set_option maxRecDepth 100000 in
set_option maxHeartbeats 400000 in
theorem made_any (a b : Int) (w : World) (ha1 : -9223372036854775808 ≤ a) (ha2 : a ≤ 9223372036854775807) (hb1 : -9223372036854775808 ≤ b) (hb2 : b ≤ 9223372036854775807) :
    Calls Tryd.prog 6 #[.agg #[.int .i64 a, .int .i64 b]] w (MadeOut w) := by
  obtain ⟨p, hp, hp2⟩ : ∃ p : Nat, (p : Int) = a % 33 ∧ p < 33 := ⟨(a % 33).toNat, by omega, by omega⟩
  obtain ⟨q, hq, hq2⟩ : ∃ q : Nat, (q : Int) = b % 49 ∧ q < 49 := ⟨(b % 49).toNat, by omega, by omega⟩
  have HBA := Lib.hid (fun W => below_any a 33 W ha1 ha2 (by omega) (by omega))
  have HBB := Lib.hid (fun W => below_any b 49 W hb1 hb2 (by omega) (by omega))
  have e33 : ((33 : Nat) : Int) = 33 := rfl
  have e49 : ((49 : Nat) : Int) = 49 := rfl
  rw [e33, ← hp] at HBA
  rw [e49, ← hq] at HBB
  have HN := Lib.hid (fun W => new_any W (8 + p) (16 + q) (by omega) (by omega) (by omega) (by omega))
  have HR := Lib.hid (fun W => newR_any W (8 + p) (16 + q) (by omega) (by omega) (by omega))
  have HF := Lib.hid (fun W (d : Dk) (h : Is W d (newS (8 + p) (16 + q))) => formatW h (by omega) (by omega) (by omega) (by omega))
  have hc1 : ((8 + p : Nat) : Int) = 8 + (p : Int) := by omega
  have hc2 : ((16 + q : Nat) : Int) = 16 + (q : Int) := by omega
  obtain ⟨m, hm⟩ : ∃ m, m = sec (8 + p) * (16 + q) := ⟨_, rfl⟩
  rw [← hm] at HR
  simp only [hc1, hc2] at HN HR
  have HM := Lib.hid hm
  have HC := Lib.hid (And.intro hp2 hq2)
  clear hp hq hc1 hc2 ha1 ha2 hb1 hb2 e33 e49 hm
  have hG : Lies ((w.alloc (.cells #[.int .i64 a, .int .i64 b] 22)).alloc (.cells #[.int .i64 0, .int .i64 0, .string ⟨#[]⟩, .slice none 0 0, .slice none 0 0, .bool false] qT)) w.heap.size #[.int .i64 a, .int .i64 b] 22 := (Lies.new w _ _).same (Below.heap_alloc _ _ _ (by simp))
  have g0 := hG.cell 0
  have g1 := hG.cell 1
  have hL : Lies ((w.alloc (.cells #[.int .i64 a, .int .i64 b] 22)).alloc (.cells #[.int .i64 0, .int .i64 0, .string ⟨#[]⟩, .slice none 0 0, .slice none 0 0, .bool false] qT)) (w.heap.size + 1) #[.int .i64 0, .int .i64 0, .string ⟨#[]⟩, .slice none 0 0, .slice none 0 0, .bool false] qT := new_at (by simp)
  have hbx : Below w.heap.size w ((w.alloc (.cells #[.int .i64 a, .int .i64 b] 22)).alloc (.cells #[.int .i64 0, .int .i64 0, .string ⟨#[]⟩, .slice none 0 0, .slice none 0 0, .bool false] qT)) := boxes _ _
  have HL := Lib.hid (And.intro hL hbx)
  clear hL hbx hG
  go_enter Tryd.func6, Tryd.ntmps6
  go_wp2_with fail
  generalize (w.alloc (.cells #[.int .i64 a, .int .i64 b] 22)).alloc (.cells #[.int .i64 0, .int .i64 0, .string ⟨#[]⟩, .slice none 0 0, .slice none 0 0, .bool false] qT) = W0 at *
  simp at g0 g1
  go_quiet (first | (go_at_call 29; with_reducible exact Calls.quiet_of_same (HBA.out _)) | (go_at_call 29; with_reducible exact Calls.quiet_of_same (HBB.out _)))
  go_wp2_with fail
  have HB0 := Lib.hid (And.intro (HL.out.1.drewN nq) (HL.out.2.trans ((below_drewN (Below.refl W0.heap.size W0) nq).mono HL.out.2.size)))
  clear g0 g1 HBA HBB
  generalize W0.drewN nq = W1 at *
  refine (HN.out _).mono ?_
  rintro e w2 ⟨d, rfl, hI, hB, hb2⟩
  have hlt : w.heap.size + 1 < d.B := by rw [hB]; exact HB0.out.1.lt
  have H2 := Lib.hid (And.intro hlt (And.intro (HB0.out.2.trans (hb2.mono HB0.out.2.size)) (HB0.out.1.same (hb2.block _ HB0.out.1.lt))))
  have hF2 := HF.out _ _ hI
  have HF2 := Lib.hid hF2
  clear hI hB hb2 hF2 HF HN hlt
  go_wp2_with fail
  refine HF2.out.mono ?_
  rintro e w3 ⟨k, rfl, hL3, hkB, hkpb, hb3⟩
  rw [← hkpb]
  have H3 := Lib.hid (And.intro hL3 (And.intro (show w.heap.size + 1 < k.d.B by rw [hkB]; exact H2.out.1) (And.intro (H2.out.2.1.trans (hb3.mono (Nat.le_of_lt (Nat.lt_of_succ_lt H2.out.1)))) (H2.out.2.2.same (hb3.block _ H2.out.1)))))
  clear hL3 hkB hkpb hb3 HF2 H2
  go_wp2_with fail
  refine (HR.out _).mono ?_
  rintro e w4 ⟨rfl, hb4⟩
  have H4 := Lib.hid (And.intro (H3.out.1.below hb4) (And.intro (H3.out.2.2.1.trans (hb4.mono H3.out.2.2.1.size)) (H3.out.2.2.2.same (hb4.block _ H3.out.2.2.2.lt))))
  clear hb4
  obtain ⟨z0, z1, z2, z3, z4, z5⟩ := six H4.out.2.2
  have zf := fun j => H4.out.2.2.free j
  go_wp2_with fail
  have hrow := lies_fill6 H4.out.2.2 (.int .i64 m) (.int .i64 0) (.string ⟨#[]⟩) (.slice none 0 0) (.slice none 0 0) (.bool false)
  refine bodyPost_ret (v := .tuple #[ptr k.pw, ptr k.d.pb, .agg (qC (m : Int) 0 ⟨#[]⟩ (.slice none 0 0) (.slice none 0 0) false)]) (results_row3 Tryd.results6 _ _ (w.heap.size + 1) qT (qC (m : Int) 0 ⟨#[]⟩ (.slice none 0 0) (.slice none 0 0) false) (0, 0) _ rfl hrow Tryd.underlying28 rfl sizeQ) rfl ?_
  have hf := fr_fill6 w4 (w.heap.size + 1) (.int .i64 m) (.int .i64 0) (.string ⟨#[]⟩) (.slice none 0 0) (.slice none 0 0) (.bool false)
  refine ⟨k, 8 + p, 16 + q, m, rfl, HM.out, by omega, by omega, by omega, by omega, H4.out.1.frame hf fun b e o => ?_, by have := H3.out.2.1; omega, H4.out.2.1.trans (hf.below H4.out.2.1.size fun b e => by omega)⟩
  have h1 := (H4.out.1.own_lt o).2
  have h2 := H3.out.2.1
  omega
end Go.Proofs.YtldmplfgnpepjaaDoor.Wal

/-
  Walks of the laws of the log: works.
-/
namespace Go.Proofs.YtldmplfgnpepjaaDoor.Wal
open Go Go.RowKit
open Go.Proofs.YtldmplfgnpepjaaDoor.Disk
open Go.Proofs.YtldmplfgnpepjaaDoor.Nets (Reads Tab Small bl ba)

/-- A log that goes on. -/
structure On (w : World) (k : Wk) (S : St) (L : Wl) (gs : List Grp) : Prop where
  log : Log w k S L
  has : Has S L.half gs
  end_ : L.at_ = (framesS gs).length
abbrev hiB : ByteArray := ⟨#[104, 105]⟩
theorem pay_hi : (payS [hiB]).length = 5 := by simp [payS, Nets.rowS, Nets.putS, Lib.decDigits]
theorem Made.on {w : World} {k : Wk} {n z : Nat} (hl : Log w k (fmtS n z) ⟨0, 0, []⟩) (h1 : 8 ≤ n) (h2 : n ≤ 40) (h3 : 16 ≤ z) (h4 : z ≤ 64) : On w k (fmtS n z) ⟨0, 0, []⟩ [] := ⟨hl, fmt_has h1 h2 h3 h4, rfl⟩
theorem half_room {n z : Nat} (h1 : 8 ≤ n) (h3 : 16 ≤ z) : 48 ≤ sec n * z := by
  have : 3 ≤ sec n := by unfold sec; omega
  exact Nat.mul_le_mul this h3
/-- The first Sync of a new log. -/
theorem sync_hi {S' : St} {L' : Wl} {x : Int} {n z : Nat} (h1 : 8 ≤ n) (h3 : 16 ≤ z) (h : SyncO (fmtS n z) ⟨0, 0, [hiB]⟩ [] S' L' x) : x = 0 ∧ Has S' 0 [[hiB]] := by
  have hr := half_room h1 h3
  have hl : (fmtS n z).dur.length = n := List.length_replicate
  cases h with
  | none hw => cases hw
  | room _ hr2 => 
    exfalso
    rw [hl] at hr2
    have : sec n * z - 0 - 1 < 9 + (payS [hiB]).length := hr2
    rw [pay_hi] at this
    omega
  | full _ _ hf => cases hf
  | power hl2 => exact absurd rfl hl2
  | done _ _ _ hS => exact ⟨rfl, hS⟩
theorem owns_one {w : World} {B : Nat} {v : Value} {s : ByteArray} (h : w.ownsRow B strT 1 v [[s]].flatten.length ([[s]].flatten.map Value.string)) : ∃ g c, v = .slice (some ⟨g, 0, none⟩) 1 c ∧ w.cell? ⟨g, 0, none⟩ = some (.string s) := by
  rcases h.2 with ⟨_, h0⟩ | ⟨g, c, cur, rfl, _⟩
  · simp at h0
  · refine ⟨g, c, rfl, ?_⟩
    have := h.cells (g := g) rfl 0 (.string s) rfl
    rwa [addr_add] at this
set_option maxRecDepth 100000 in
set_option maxHeartbeats 2000000 in
theorem works_any (w : World) (ht : Tab w) : Calls Tryd.prog 8 #[] w fun e w' => e = .returned (.bool true) ∧ Below w.heap.size w w' := by
  have HM := Lib.hid (made_any 0 0 w (by omega) (by omega) (by omega) (by omega))
  have HT := Lib.hid ht
  have HN := Lib.hid (fun W (v : Value) (hr : Reads W v [hiB]) (ht : Tab W) => needW hr ⟨by simp, fun s hs => by simp at hs; subst hs; decide⟩ ht)
  rw [pay_hi] at HN
  clear ht
  go_enter Tryd.func8, Tryd.ntmps8
  go_wp2_with fail
  refine HM.out.mono ?_
  rintro e w1 ⟨k, n, z, m, rfl, hm, h1, h2, h3, h4, hl, hB, hb⟩
  have hbx : Below w1.heap.size w1 (w1.alloc (.cells (qC (m : Int) 0 ⟨#[]⟩ (.slice none 0 0) (.slice none 0 0) false) qT)) := (Below.refl _ _).alloc (Nat.le_refl _) _
  have hap := appendW (hl.below hbx) hiB (by simp)
  have HAP := Lib.hid hap
  have HB := Lib.hid (And.intro (hb.trans (hbx.mono hb.size)) (show 8 ≤ n ∧ n ≤ 40 ∧ 16 ≤ z ∧ z ≤ 64 from ⟨h1, h2, h3, h4⟩))
  have hlt := (hl.below hbx).own_lt (b := k.pw) (.inr (.inl rfl))
  have HGB := Lib.hid (And.intro hB hlt)
  have HL1 := Lib.hid (hl.below hbx)
  clear hm h1 h2 h3 h4 hl hB hb hbx hap hlt HM
  go_wp2_with fail
  generalize w1.alloc (.cells (qC (m : Int) 0 ⟨#[]⟩ (.slice none 0 0) (.slice none 0 0) false) 28) = W1 at *
  refine HAP.out.mono ?_
  rintro e w2 ⟨rfl, k2, hl2, hs2⟩
  have hb2 : Below w.heap.size w w2 := HB.out.1.trans (hs2.fr.below HB.out.1.size fun b hb => by have := (HL1.out.own_lt hb).2; have := HGB.out.1; omega)
  have ht2 : Tab w2 := HT.out.below hb2
  have hg2 : Grd k2 := by unfold Grd; rw [hs2.B]; have := HT.out.2; have := HGB.out.1; omega
  have hpw : k2.pw = k.pw := hs2.pw
  have hpb : k2.d.pb = k.d.pb := hs2.pb
  have hk2B : w.heap.size ≤ k2.d.B := by rw [hs2.B]; exact HGB.out.1
  have hsy := syncW hl2 [] (fmt_has HB.out.2.1 HB.out.2.2.1 HB.out.2.2.2.1 HB.out.2.2.2.2) rfl ⟨by simp, fun s hs => by simp at hs; subst hs; decide⟩ ht2 hg2 (by show 3 + 100 < 1000000; omega)
  rw [hpw] at hsy
  have HSY := Lib.hid hsy
  have H2 := Lib.hid (And.intro hb2 (And.intro hl2 (And.intro hk2B hpb)))
  clear hl2 hs2 hb2 ht2 hg2 hpw hpb hsy hk2B HAP
  go_wp2_with fail
  refine HSY.out.mono ?_
  rintro e w3 ⟨S', L', x, rfl, ho, hk, k3, hl3, hs3⟩
  obtain ⟨rfl, hh⟩ := sync_hi HB.out.2.1 HB.out.2.2.2.1 ho
  have hb3 : Below w.heap.size w w3 := H2.out.1.trans (hs3.fr.below H2.out.1.size fun b hb => by have := (H2.out.2.1.own_lt hb).2; have := H2.out.2.2.1; omega)
  have hop := openW hl3.disk 0 [[hiB]] hh
  rw [show k3.d.pb = k.d.pb from hs3.pb.trans H2.out.2.2.2] at hop
  have HOP := Lib.hid hop
  have H3 := Lib.hid hb3
  clear ho hk hl3 hs3 hh hb3 hop HSY
  go_wp2_with fail
  refine HOP.out.mono ?_
  rintro e w4 ⟨k4, v, rfl, hkd, hv, hl4, hpw4, hb4, -⟩
  have hb4' := H3.out.trans (hb4.mono H3.out.size)
  obtain ⟨g, c, rfl, hg⟩ := owns_one hv
  have H4 := Lib.hid hb4'
  have hal : Below w4.heap.size w4 (w4.alloc (.cells #[.string hiB] strT)) := (Below.refl _ _).alloc (Nat.le_refl _) _
  have hnd := HN.out _ _ (reads_one (Lies.new w4 #[.string hiB] strT)) (HT.out.below (hb4'.trans (hal.mono hb4'.size)))
  have HND := Lib.hid hnd
  have H5 := Lib.hid (And.intro hal hg)
  clear hkd hv hl4 hpw4 hb4 hb4' hal hnd hg HN HOP
  go_wp2_with fail
  refine HND.out.mono ?_
  rintro e w5 ⟨rfl, hb5⟩
  have hg := H5.out.2
  have hb6 := H5.out.1.trans (hb5.mono H5.out.1.size)
  have hg5 : w5.cell? ⟨g, 0, none⟩ = some (.string hiB) := (hb6.cell (World.block_lt_of_cell? w4 _ hg)).trans hg
  have H6 := Lib.hid (H4.out.trans (hb6.mono H4.out.size))
  clear hb5 hb6 hg H5 HND
  go_wp2_with fail
  go_ret
  exact ⟨rfl, H6.out⟩
end Go.Proofs.YtldmplfgnpepjaaDoor.Wal

/-
  What the law's run of acts rests on: the log, the texts that were told as there, those that wait, beside one another.
-/
namespace Go.Proofs.YtldmplfgnpepjaaDoor.Wal
open Go Go.RowKit
open Go.Proofs.YtldmplfgnpepjaaDoor.Disk
open Go.Proofs.YtldmplfgnpepjaaDoor.Nets (Reads Tab Small bl ba)

/-- While the acts of a run are done. -/
structure RunAt (w : World) (k0 : Wk) (j : Nat) (tv wv : Value) (wr : World) (k : Wk) (S : St) (L : Wl) (gs : List Grp) : Prop where
  log : Log wr k S L
  step : StepW w k0 wr k
  has : Has S L.half gs
  end_ : L.at_ = (framesS gs).length
  ops : S.ops ≤ 3 + 84 * j
  there : Rd (fun b => ownW k b ∨ wv.ownBlock = some b) wr tv gs.flatten
  wait : wr.ownsRow w.heap.size strT 1 wv L.wait.length (L.wait.map Value.string)
  waitO : ∀ b, wv.ownBlock = some b → ¬ ownW k b
  few : L.wait.length ≤ j
  small : ∀ s ∈ L.wait, s.size ≤ 300
/-- How a run ends: wherever the power went, behind a crash there is the log of what was told as there, or of what there may be instead. -/
def RunOut (w : World) (k0 : Wk) (e : Ending) (w' : World) : Prop := ∃ (tv ov : Value) (k : Wk) (S : St) (L : Wl) (a b : List Grp), e = .returned (.tuple #[tv, ov]) ∧ Log w' k S L ∧ StepW w k0 w' k ∧
  Rd (ownW k) w' tv a.flatten ∧ Rd (ownW k) w' ov b.flatten ∧ S.ops ≤ 4000 ∧ a.flatten.length ≤ 100000 ∧ b.flatten.length ≤ 100000 ∧ ∀ ks torn, ∃ h gs, Has (crashS S ks torn) h gs ∧ (gs = a ∨ gs = b)
theorem Has.flat {S : St} {h : Nat} {gs : List Grp} (hh : Has S h gs) : gs.flatten.length ≤ 1000 ∧ (framesS gs).length ≤ 2000 ∧ ∀ x ∈ gs.flatten, x.size ≤ 2000 := by
  have h1 := (frames_ge gs).1
  have h3 := (frames_ge gs).2
  have h2 := hh.lg.room
  have : sec S.dur.length * S.z ≤ 19 * 64 := Nat.mul_le_mul (by have := hh.lg.n2; unfold sec; omega) hh.lg.z2
  exact ⟨by omega, by omega, fun x hx => by have := h3 x hx; omega⟩
theorem nil_no {F : Nat → Prop} : ∀ b, (Value.slice none 0 0).ownBlock = some b → ¬ F b := fun b hb => by cases hb
section
variable {w wr : World} {k0 k : Wk} {j : Nat} {tv wv : Value} {S : St} {L : Wl} {gs : List Grp}
theorem RunAt.start (h : On w k S L gs) (hw : L.wait = []) (hg : gs = []) (hops : S.ops ≤ 3) : RunAt w k 0 (.slice none 0 0) (.slice none 0 0) w k S L gs := by
  subst hg
  refine ⟨h.log, StepW.refl _ _, h.has, h.end_, hops, Rd.nil, ?_, nil_no, (by rw [hw]; exact Nat.le_refl _), fun s hs => (by rw [hw] at hs; cases hs)⟩
  rw [hw]
  exact World.ownsRow_nil _ _ _ _
theorem RunAt.belowW (h : RunAt w k0 j tv wv wr k S L gs) {W : World} (hb : Below wr.heap.size wr W) : RunAt w k0 j tv wv W k S L gs :=
  ⟨h.log.below hb, h.step.trans (StepW.of_below k hb), h.has, h.end_, h.ops, h.there.below hb fun _ _ => .inr trivial, Nets.owns_below h.wait hb, h.waitO, h.few, h.small⟩
theorem RunAt.smalls (h : RunAt w k0 j tv wv wr k S L gs) (hj : j ≤ 40) : Small L.wait := ⟨by have := h.few; omega, fun s hs => by have := h.small s hs; omega⟩
/-- What stands of the run's beginning. -/
theorem RunAt.old (h : RunAt w k0 j tv wv wr k S L gs) {S0 : St} {L0 : Wl} (hl : Log w k0 S0 L0) {B : Nat} (hB : B ≤ k0.d.B) : Below B w wr :=
  h.step.fr.below (by have := hl.own_lt (b := k0.pw) (.inr (.inl rfl)); omega) fun b hb => Nat.le_trans hB (hl.own_lt hb).2
theorem RunAt.done (h : RunAt w k0 j tv wv wr k S L gs) (hj : j ≤ 40) : RunOut w k0 (.returned (.tuple #[tv, tv])) wr := by
  have hf := h.has.flat.1
  have hr : Rd (ownW k) wr tv gs.flatten := h.there.mono fun b _ e => .inl e
  exact ⟨tv, tv, k, S, L, gs, gs, rfl, h.log, h.step, hr, hr, by have := h.ops; omega, by omega, by omega, fun ks torn => ⟨_, gs, h.has.crash ks torn, .inl rfl⟩⟩
/-- A text more waits. -/
theorem RunAt.app (h : RunAt w k0 j tv wv wr k S L gs) (hj : j ≤ 40) {s : ByteArray} (hs : s.size ≤ 300) {k2 : Wk} {w2 : World} (hl : Log w2 k2 S { L with wait := L.wait ++ [s] }) (hst : StepW wr k w2 k2) :
    ∃ v' w3, (Builtin.append_ #[26, 26] 26 #[wv, .slice (some ⟨w2.heap.size, 0, none⟩) 1 1]).run Tryd.prog (w2.alloc (.cells #[.string s] strT)) = .ok v' w3 ∧ RunAt w k0 (j + 1) tv v' w3 k2 S { L with wait := L.wait ++ [s] } gs := by
  have hal : Below w2.heap.size w2 (w2.alloc (.cells #[.string s] strT)) := (Below.refl _ _).alloc (Nat.le_refl _) _
  have hown : ∀ b, wv.ownBlock = some b → ¬ ownW k2 b := fun b hb e => by
    rcases hst.own b e with e | e
    · exact h.waitO b hb e
    · have := (h.wait.lt b hb).2; omega
  have ho2 : w2.ownsRow w.heap.size strT 1 wv L.wait.length (L.wait.map Value.string) := Fr.owns h.wait hst.fr fun b hb => h.waitO b hb
  have ho3 := Nets.owns_below ho2 hal
  have hl3 := hl.below hal
  have hB : w.heap.size ≤ (w2.alloc (.cells #[.string s] strT)).heap.size := Nat.le_trans (h.step.trans hst).fr.size hal.size
  have hfew := h.few
  obtain ⟨v', w3, hr, h1, h2, h3⟩ := append_texts (w2.alloc (.cells #[.string s] strT)) w.heap.size wv _ L.wait [s] ho3 (reads_one (Lies.new w2 #[.string s] strT)) (by omega) (by simp) hB
  have hF : Fr (fun b => wv.ownBlock = some b) (w2.alloc (.cells #[.string s] strT)) w3 := (Fr.refl _ _).grown h2 fun b hb _ => hb
  have hst3 : StepW wr k (w2.alloc (.cells #[.string s] strT)) k2 := hst.trans (StepW.of_below _ hal)
  have hthere : Rd (fun b => ownW k2 b ∨ wv.ownBlock = some b) (w2.alloc (.cells #[.string s] strT)) tv gs.flatten := h.there.frame hst3.fr (fun b hb => .inl hb) fun b hb => by
    rcases hb with hb | hb
    · rcases hst3.own b hb with e | e
      · exact .inl (.inl e)
      · exact .inr e
    · exact .inl (.inr hb)
  refine ⟨v', w3, hr, hl3.frame hF hown, ?_, h.has, h.end_, by have := h.ops; omega, hthere.frame hF (fun b hb => .inr hb) fun b hb => ?_, h1, fun b hb e => ?_, by simp; omega, fun x hx => ?_⟩
  · refine ⟨?_, (h.step.trans hst3).B, (h.step.trans hst3).pb, (h.step.trans hst3).pw, (h.step.trans hst3).own⟩
    refine (h.step.trans hst3).fr.trans hF fun b hb e => ?_
    have := (h.wait.lt b e).1
    omega
  · rcases hb with hb | hb
    · exact .inl (.inl hb)
    · rcases h3 b hb with e | e
      · exact .inl (.inr e)
      · exact .inr e
  · rcases h3 b hb with e2 | e2
    · exact hown b e2 e
    · have := (hl3.own_lt e).1; omega
  · rcases List.mem_append.1 hx with hx | hx
    · exact h.small x hx
    · obtain rfl := List.mem_singleton.1 hx
      exact hs
/-- What there would be: the texts told as there, and behind them those that wait. -/
theorem RunAt.next (h : RunAt w k0 j tv wv wr k S L gs) (hj : j ≤ 40) : ∃ v1 w1 v2 w2, (Builtin.append_ #[26, 26] 26 #[.slice (some ⟨wr.heap.size, 0, none⟩) 0 0, tv]).run Tryd.prog (wr.alloc (.cells #[] strT)) = .ok v1 w1 ∧
    (Builtin.append_ #[26, 26] 26 #[v1, wv]).run Tryd.prog w1 = .ok v2 w2 ∧ w2.ownsRow wr.heap.size strT 1 v2 (gs.flatten ++ L.wait).length ((gs.flatten ++ L.wait).map Value.string) ∧ Below wr.heap.size wr w2 := by
  have hf := h.has.flat.1
  have hw := h.few
  obtain ⟨v1, w1, r1, o1, b1⟩ := append_made wr tv gs.flatten h.there.1 (by omega)
  have hwv := (Nets.reads_owns h.wait).below b1
  obtain ⟨v2, w2, r2, o2, g2, _⟩ := append_texts w1 wr.heap.size v1 wv gs.flatten L.wait o1 hwv (by omega) (by omega) b1.size
  exact ⟨v1, w1, v2, w2, r1, r2, o2, b1.grown g2 b1.size fun b hb => (o1.lt b hb).1⟩
/-- Behind a Sync. -/
theorem RunAt.synced (h : RunAt w k0 j tv wv wr k S L gs) (hj : j < 40) {v2 : Value} {w2 : World} (ho : w2.ownsRow wr.heap.size strT 1 v2 (gs.flatten ++ L.wait).length ((gs.flatten ++ L.wait).map Value.string)) (hb : Below wr.heap.size wr w2)
    {S' : St} {L' : Wl} {x : Int} (hs : SyncO S L gs S' L' x) (hk : Kin S S' 84) {w3 : World} (hd : Done w2 k S' L' w3) :
    (x = 80 ∧ RunOut w k0 (.returned (.tuple #[tv, v2])) w3) ∨ (x = 0 ∧ ∃ k' gs', RunAt w k0 (j + 1) v2 (.slice none 0 0) w3 k' S' L' gs') ∨ (x ≠ 0 ∧ x ≠ 80 ∧ ∃ k', RunAt w k0 (j + 1) tv (.slice none 0 0) w3 k' S' L' gs) := by
  obtain ⟨k', hl, hst⟩ := hd
  have hf := h.has.flat.1
  have hw := h.few
  have hops : S'.ops ≤ 3 + 84 * (j + 1) := by have := h.ops; have := hk.ops; omega
  have hst2 : StepW wr k w3 k' := (StepW.of_below k hb).trans hst
  have ho3 : w3.ownsRow wr.heap.size strT 1 v2 (gs.flatten ++ L.wait).length ((gs.flatten ++ L.wait).map Value.string) := Fr.owns ho hst.fr fun b hb2 e => by
    have h1 := (ho.lt b hb2).1
    have h2 := (h.log.own_lt e).1
    omega
  have hO3 : ∀ b, v2.ownBlock = some b → ¬ ownW k' b := fun b hb2 e => by
    have h1 := ho.lt b hb2
    rcases hst.own b e with e2 | e2
    · have h2 := (h.log.own_lt e2).1
      omega
    · omega
  have hth : Rd (ownW k') w3 tv gs.flatten := h.there.frame hst2.fr (fun b e => .inl e) fun b e => by
    rcases hst2.own b e with e2 | e2
    · exact .inl (.inl e2)
    · exact .inr e2
  have hov : Rd (ownW k') w3 v2 (gs.flatten ++ L.wait) := Rd.owns ho3 hO3
  have hnil : ∀ {v : Value} {ss : List ByteArray}, Rd (ownW k') w3 v ss → Rd (fun b => ownW k' b ∨ (Value.slice none 0 0).ownBlock = some b) w3 v ss := fun hr => hr.mono fun b _ e => by
    rcases e with e | e
    · exact e
    · cases e
  have hnw : ∀ {L'' : Wl}, L''.wait = [] → w3.ownsRow w.heap.size strT 1 (.slice none 0 0) L''.wait.length (L''.wait.map Value.string) := fun e => by
    rw [e]
    exact World.ownsRow_nil _ _ _ _
  cases hs with
  | none hw0 hS hL =>
    subst hS hL
    rw [hw0, List.append_nil] at hov
    exact .inr (.inl ⟨rfl, k', gs, hl, h.step.trans hst2, h.has, h.end_, hops, hnil hov, hnw rfl, nil_no, Nat.zero_le _, fun s hs => (by cases hs)⟩)
  | room hw0 hr hS hL =>
    subst hS hL
    exact .inr (.inr ⟨by omega, by omega, k', hl, h.step.trans hst2, h.has, h.end_, hops, hnil hth, hnw rfl, nil_no, Nat.zero_le _, fun s hs => (by cases hs)⟩)
  | full hw0 hr hf hS hL =>
    subst hL
    exact .inr (.inr ⟨by omega, by omega, k', hl, h.step.trans hst2, hS, h.end_, hops, hnil hth, hnw rfl, nil_no, Nat.zero_le _, fun s hs => (by cases hs)⟩)
  | power hl0 hE =>
    have e : (gs ++ [L.wait]).flatten = gs.flatten ++ L.wait := by rw [List.flatten_append, List.flatten_singleton]
    refine .inl ⟨rfl, tv, v2, k', S', L', gs, gs ++ [L.wait], rfl, hl, h.step.trans hst2, hth, by rw [e]; exact hov, by omega, by omega, by rw [e, List.length_append]; omega, fun ks torn => hE.crash ks torn⟩
  | done hw0 hr hf hS hL =>
    subst hL
    have e : (gs ++ [L.wait]).flatten = gs.flatten ++ L.wait := by rw [List.flatten_append, List.flatten_singleton]
    exact .inr (.inl ⟨rfl, k', gs ++ [L.wait], hl, h.step.trans hst2, hS, rfl, hops, by rw [e]; exact hnil hov, hnw rfl, nil_no, Nat.zero_le _, fun s hs => (by cases hs)⟩)
/-- Behind a Reset, to a list that was there before the run. -/
theorem RunAt.reset (h : RunAt w k0 j tv wv wr k S L gs) (hj : j < 40) {v2 : Value} {l : List ByteArray} {B : Nat} (hr : Reads wr v2 l) (hv : ∀ b, v2.ownBlock = some b → 0 < l.length → b < B) (hB : B ≤ k0.d.B) (hBw : B ≤ w.heap.size) (hll : l.length ≤ 1000)
    {S' : St} {L' : Wl} {x : Int} (hs : ResetO S L gs l S' L' x) (hk : Kin S S' 84) {w3 : World} (hd : Done wr k S' L' w3) :
    (x = 80 ∧ RunOut w k0 (.returned (.tuple #[tv, v2])) w3) ∨ (x = 0 ∧ ∃ k' gs', RunAt w k0 (j + 1) v2 wv w3 k' S' L' gs') ∨ (x ≠ 0 ∧ x ≠ 80 ∧ ∃ k', RunAt w k0 (j + 1) tv wv w3 k' S' L' gs) := by
  obtain ⟨k', hl, hst⟩ := hd
  have hf := h.has.flat.1
  have hw := h.few
  have hops : S'.ops ≤ 3 + 84 * (j + 1) := by have := h.ops; have := hk.ops; omega
  have hwO : ∀ b, wv.ownBlock = some b → ¬ ownW k' b := fun b hb2 e => by
    rcases hst.own b e with e2 | e2
    · exact h.waitO b hb2 e2
    · have := (h.wait.lt b hb2).2; omega
  have hwt : w3.ownsRow w.heap.size strT 1 wv L.wait.length (L.wait.map Value.string) := Fr.owns h.wait hst.fr fun b hb => h.waitO b hb
  have hF' : ∀ b, (ownW k' b ∨ wv.ownBlock = some b) → (ownW k b ∨ wv.ownBlock = some b) ∨ wr.heap.size ≤ b := fun b e => by
    rcases e with e | e
    · rcases hst.own b e with e2 | e2
      · exact .inl (.inl e2)
      · exact .inr e2
    · exact .inl (.inr e)
  have hth : Rd (fun b => ownW k' b ∨ wv.ownBlock = some b) w3 tv gs.flatten := h.there.frame hst.fr (fun b e => .inl e) hF'
  have hov0 : Rd (fun b => ownW k b ∨ wv.ownBlock = some b) wr v2 l := Rd.old hr hv (Nat.le_trans hBw h.step.fr.size) fun b e => by
    rcases e with e | e
    · have h1 := (h.log.own_lt e).2
      rw [h.step.B] at h1
      omega
    · have := (h.wait.lt b e).1
      omega
  have hov : Rd (fun b => ownW k' b ∨ wv.ownBlock = some b) w3 v2 l := hov0.frame hst.fr (fun b e => .inl e) hF'
  have hlt : l.length ≤ 100000 := by omega
  cases hs with
  | room hr hS hL =>
    subst hS hL
    exact .inr (.inr ⟨by omega, by omega, k', hl, h.step.trans hst, h.has, h.end_, hops, hth, hwt, hwO, by omega, h.small⟩)
  | full hr hf hS hL =>
    subst hL
    exact .inr (.inr ⟨by omega, by omega, k', hl, h.step.trans hst, hS, h.end_, hops, hth, hwt, hwO, by omega, h.small⟩)
  | power hl0 hE =>
    refine .inl ⟨rfl, tv, v2, k', S', L', gs, newG l, rfl, hl, h.step.trans hst, hth.mono fun b _ e => .inl e, by rw [newG_flat]; exact hov.mono fun b _ e => .inl e, by omega, by omega, by rw [newG_flat]; exact hlt, fun ks torn => hE.crash ks torn⟩
  | done hr hf hS hL =>
    subst hL
    exact .inr (.inl ⟨rfl, k', newG l, hl, h.step.trans hst, hS, rfl, hops, by rw [newG_flat]; exact hov, hwt, hwO, Nat.le_succ_of_le hw, h.small⟩)
/-- Behind a Fill. -/
theorem RunAt.filled (h : RunAt w k0 j tv wv wr k S L gs) (b : Bool) {w3 : World} (hd : Done wr k (fillS S b) L w3) : ∃ k', RunAt w k0 (j + 1) tv wv w3 k' (fillS S b) L gs := by
  obtain ⟨k', hl, hst⟩ := hd
  have hw := h.few
  refine ⟨k', hl, h.step.trans hst, h.has.fill b, h.end_, by have := h.ops; show S.ops ≤ _; omega, h.there.frame hst.fr (fun b e => .inl e) fun b e => ?_, Fr.owns h.wait hst.fr fun b hb => h.waitO b hb, fun b hb2 e => ?_, by omega, h.small⟩
  · rcases e with e | e
    · rcases hst.own b e with e2 | e2
      · exact .inl (.inl e2)
      · exact .inr e2
    · exact .inl (.inr e)
  · rcases hst.own b e with e2 | e2
    · exact h.waitO b hb2 e2
    · have := (h.wait.lt b hb2).2; omega
theorem RunAt.skip (h : RunAt w k0 j tv wv wr k S L gs) : RunAt w k0 (j + 1) tv wv wr k S L gs :=
  ⟨h.log, h.step, h.has, h.end_, by have := h.ops; omega, h.there, h.wait, h.waitO, by have := h.few; omega, h.small⟩
end
end Go.Proofs.YtldmplfgnpepjaaDoor.Wal

/-
  Walks of the laws of the log: run.
-/
namespace Go.Proofs.YtldmplfgnpepjaaDoor.Wal
open Go Go.RowKit
open Go.Proofs.YtldmplfgnpepjaaDoor.Disk
open Go.Proofs.YtldmplfgnpepjaaDoor.Nets (Reads Tab Small bl ba)

theorem OkA.lt {w : World} {a : Ak} (h : OkA w a) : ∀ b, a.lv.ownBlock = some b → 0 < a.ls.length → b < w.heap.size := reads_lt h.reads
theorem RunOut.below {w w' w'' : World} {k0 : Wk} {e : Ending} (h : RunOut w k0 e w') (hb : Below w'.heap.size w' w'') : RunOut w k0 e w'' := by
  obtain ⟨tv, ov, k, S, L, a, b, he, hl, hst, h1, h2, h3, h4, h5, h6⟩ := h
  exact ⟨tv, ov, k, S, L, a, b, he, hl.below hb, hst.trans (StepW.of_below _ hb), h1.below hb fun _ _ => .inr trivial, h2.below hb fun _ _ => .inr trivial, h3, h4, h5, h6⟩
section
set_option maxRecDepth 100000 in
set_option maxHeartbeats 4000000 in
theorem run_any (v : Value) (es : List Ak) (w0 : World) (h : ReadsA w0 v es) (ho : ∀ e ∈ es, OkA w0 e) (hm : es.length ≤ 9223372036854775807) (hli : lightS es = true) (ht : Tab w0)
    (w : World) (k : Wk) (S : St) (L : Wl) (on : On w k S L []) (hw : L.wait = []) (hops : S.ops ≤ 3) (hb : Below w0.heap.size w0 w) (hB : w0.heap.size ≤ k.d.B) :
    Calls Tryd.prog 26 #[ptr k.pw, ptr k.d.pb, v] w (RunOut w k) := by
  obtain ⟨va, cap, rfl, hsh⟩ := h.shape
  have HL := Lib.hid hsh
  have HO := Lib.hid ho
  have HT := Lib.hid (And.intro ht (And.intro hb (And.intro hB on.log)))
  have HLI := Lib.hid hli
  have HST := Lib.hid (RunAt.start on hw rfl hops)
  clear h ho hsh hb hB on hw hops hli ht
  go_enter Tryd.func26, Tryd.ntmps26
  go_wp2_with fail
  go_loopw [8, 9, 10, 11, 12, 13, 14, 31, 42, 58, 73] (fun tv wv i _ _ _ _ _ _ _ _ wr => ∃ (j : Nat) (k' : Wk) (S' : St) (L' : Wl) (gs' : List Grp), j ≤ es.length ∧ j ≤ 40 ∧ i = .int .i64 j ∧ RunAt w k j tv wv wr k' S' L' gs') (fun _ _ i _ _ _ _ _ _ _ _ _ => es.length - (intOf i).toNat)
  case atStart => exact ⟨0, k, S, L, [], Nat.zero_le _, by omega, rfl, HST.out⟩
  case round =>
    obtain ⟨j, k', S', L', gs', hj, hj40, rfl, hM⟩ := hrel
    have HM := Lib.hid hM
    clear hM
    by_cases hlt : j < es.length ∧ j < 40
    · obtain ⟨a, ha⟩ : ∃ a, es[j]? = some a := ⟨es[j], List.getElem?_eq_getElem hlt.1⟩
      obtain ⟨b, of, rfl, hbl, hra⟩ := HL.out (by omega)
      have h1 := hlt.1
      have h2 := hlt.2
      have hbw : Below w0.heap.size w0 wr := HT.out.2.1.trans (HM.out.old HT.out.2.2.2 HT.out.2.2.1)
      have hoa := (HO.out a (List.mem_of_getElem? ha)).below hbw
      have hol := (HO.out a (List.mem_of_getElem? ha)).lt
      obtain ⟨l1, l2, l3⟩ := lightS_at HLI.out ha h2
      obtain ⟨x0, x1, x2, x3⟩ := four (range_below (hra j a ha) hbl hbw)
      have hal : Below wr.heap.size wr (wr.alloc (.cells #[.int .i64 a.kind, .string a.s, a.lv, .bool a.is] akT)) := (Below.refl _ _).alloc (Nat.le_refl _) _
      have hbox : Lies (wr.alloc (.cells #[.int .i64 a.kind, .string a.s, a.lv, .bool a.is] akT)) wr.heap.size #[.int .i64 a.kind, .string a.s, a.lv, .bool a.is] akT := Lies.new _ _ _
      have HRW := Lib.hid (HM.out.belowW hal)
      have HBX := Lib.hid (And.intro hbox (And.intro (show ∀ b, ownW k' b → b < wr.heap.size from fun b hb => (HM.out.log.own_lt hb).1) (And.intro hal (hbw.trans (hal.mono hbw.size)))))
      have HA := Lib.hid (And.intro (hoa.below hal) (And.intro hol (And.intro l1 (And.intro l2 l3))))
      have hpw : k'.pw = k.pw := HM.out.step.pw
      have hpb : k'.d.pb = k.d.pb := HM.out.step.pb
      have HP := Lib.hid (And.intro hpw hpb)
      clear hlt ha hra hbw hoa hol l1 l2 l3 hal hbox hpw hpb
      obtain ⟨kind, s, lv, ls, is⟩ := a
      simp only at x0 x1 x2 x3 HRW HBX HA
      obtain ⟨la, lc, hlv⟩ := HA.out.1.reads.form
      have hlv2 : lv = .slice la ls.length lc := hlv
      subst hlv2
      clear hlv
      rcases (show kind = 0 ∨ kind = 1 ∨ kind = 2 ∨ kind = 4 ∨ (kind ≠ 0 ∧ kind ≠ 1 ∧ kind ≠ 2 ∧ kind ≠ 4) by omega) with rfl | rfl | rfl | rfl | ⟨k0, k1, k2, k4⟩
      · go_wp2_with fail
        generalize wr.alloc (.cells #[.int .i64 0, .string s, .slice la ls.length lc, .bool is] 34) = W4 at *
        have hap := appendW HRW.out.log s (by have := HRW.out.few; omega)
        rw [HP.out.1] at hap
        have HAP := Lib.hid hap
        clear hap x0 x1 x2 x3
        refine HAP.out.mono ?_
        rintro e w2 ⟨rfl, k2, hl2, hst2⟩
        obtain ⟨v', w3, hr, hR2⟩ := HRW.out.app (by omega) HA.out.2.2.1 hl2 hst2
        have hx := HBX.out.1.same (hst2.fr.block _ HBX.out.1.lt fun e => by have := HBX.out.2.1 _ e; omega)
        have x1 : w2.cell? ⟨wr.heap.size, 1, none⟩ = some (.string s) := hx.cell 1
        have HR := Lib.hid hr
        have HR2 := Lib.hid hR2
        clear hl2 hst2 hr hR2 hx HAP
        go_wp2_with (at_builtin; refine wpList_append_run rfl _ _ 26 rfl _ _ _ rfl rfl HR.out ?_)
        go_roundw
        case rel => exact ⟨j + 1, k2, S', _, gs', by omega, by omega, by simp, HR2.out⟩
        case measure => simp [intOf]; omega
      · obtain ⟨v1, w1, v2, w2, r1, r2, o2, b2⟩ := HRW.out.next (by omega)
        simp only [World.size_alloc] at r1
        have HR1 := Lib.hid r1
        have HR2 := Lib.hid r2
        have hlw2 : Log w2 k' S' L' := HRW.out.log.below b2
        have hb2 : Below w0.heap.size w0 w2 := HBX.out.2.2.2.trans (b2.mono HBX.out.2.2.2.size)
        have hkB : k'.d.B = k.d.B := HM.out.step.B
        have hsy := syncW hlw2 gs' HM.out.has HM.out.end_ (HM.out.smalls (by omega)) (HT.out.1.below hb2) (by unfold Grd; rw [hkB]; have := HT.out.1.2; have := HT.out.2.2.1; omega) (by have := HM.out.ops; omega)
        rw [HP.out.1] at hsy
        have HSY := Lib.hid hsy
        have HO2 := Lib.hid (And.intro o2 b2)
        clear r1 r2 o2 b2 hlw2 hb2 hkB hsy
        go_wp2_with (first | (at_builtin; refine wpList_append_run rfl _ _ 26 rfl _ _ _ rfl rfl HR1.out ?_) | (at_builtin; refine wpList_append_run rfl _ _ 26 rfl _ _ _ rfl rfl HR2.out ?_))
        clear x0 x1 x2 x3 HR1 HR2
        refine HSY.out.mono ?_
        rintro e w3 ⟨S2, L2, x, rfl, hso, hki, hdo⟩
        rcases HRW.out.synced (by omega) HO2.out.1 HO2.out.2 hso hki hdo with ⟨rfl, hout⟩ | ⟨rfl, k3, gs3, hR⟩ | ⟨n1, n2, k3, hR⟩
        · have HR := Lib.hid hout
          clear hout hso hki hdo HSY HO2
          go_wp2_with fail
          go_ret2
          exact HR.out
        · have HR := Lib.hid hR
          clear hR hso hki hdo HSY HO2
          go_wp2_with fail
          go_roundw
          case rel => exact ⟨j + 1, k3, S2, L2, gs3, by omega, by omega, by simp, HR.out⟩
          case measure => simp [intOf]; omega
        · have HR := Lib.hid hR
          have e1 : (x == 80) = false := by simp [n2]
          have e2 : (x == 0) = false := by simp [n1]
          clear hR hso hki hdo HSY HO2
          go_wp2_with fail
          go_roundw
          case rel => exact ⟨j + 1, k3, S2, L2, gs', by omega, by omega, by simp, HR.out⟩
          case measure => simp [intOf]; omega
      · have l2 : ls.length ≤ 20 := HA.out.2.2.2.1
        have hrs := resetW HRW.out.log gs' HM.out.has HA.out.1.reads ⟨(by show ls.length ≤ _; omega), fun s hs => by have := HA.out.2.2.2.2 s hs; omega⟩ (HT.out.1.below HBX.out.2.2.2) (by have := HM.out.ops; omega)
        rw [HP.out.1] at hrs
        have HRS := Lib.hid hrs
        clear hrs
        go_wp2_with fail
        generalize wr.alloc (.cells #[.int .i64 2, .string s, .slice la ls.length lc, .bool is] 34) = W4 at *
        clear x0 x1 x2 x3
        refine HRS.out.mono ?_
        rintro e w3 ⟨S2, L2, x, rfl, hso, hki, hdo⟩
        have hx := HBX.out.1.same ((by obtain ⟨_, _, hst⟩ := hdo; exact hst.fr.block _ HBX.out.1.lt fun e => by have := HBX.out.2.1 _ e; omega : w3.heap[wr.heap.size]? = W4.heap[wr.heap.size]?))
        have x2 : w3.cell? ⟨wr.heap.size, 2, none⟩ = some (.slice la ls.length lc) := hx.cell 2
        rcases HRW.out.reset (by omega) HA.out.1.reads HA.out.2.1 HT.out.2.2.1 (HT.out.2.1.size) (show ls.length ≤ 1000 by omega) hso hki hdo with ⟨rfl, hout⟩ | ⟨rfl, k3, gs3, hR⟩ | ⟨n1, n2, k3, hR⟩
        · have HR := Lib.hid hout
          clear hout hso hki hdo HRS hx
          go_wp2_with fail
          go_quiet (fail)
          go_wp2_with fail
          go_ret2
          exact HR.out.below (below_of_drew ⟨nq, rfl⟩)
        · have HR := Lib.hid hR
          clear hR hso hki hdo HRS hx
          go_wp2_with fail
          go_roundw
          case rel => exact ⟨j + 1, k3, S2, L2, gs3, by omega, by omega, by simp, HR.out⟩
          case measure => simp [intOf]; omega
        · have HR := Lib.hid hR
          have e1 : (x == 80) = false := by simp [n2]
          have e2 : (x == 0) = false := by simp [n1]
          clear hR hso hki hdo HRS hx
          go_wp2_with fail
          go_roundw
          case rel => exact ⟨j + 1, k3, S2, L2, gs', by omega, by omega, by simp, HR.out⟩
          case measure => simp [intOf]; omega
      · have hfi := fillW HRW.out.log is
        rw [HP.out.2] at hfi
        have HFI := Lib.hid hfi
        clear hfi
        go_wp2_with fail
        clear x0 x1 x2 x3
        refine HFI.out.mono ?_
        rintro e w3 ⟨rfl, hdo⟩
        obtain ⟨k3, hR⟩ := HRW.out.filled is hdo
        have HR := Lib.hid hR
        clear hR hdo
        go_wp2_with fail
        go_roundw
        case rel => exact ⟨j + 1, k3, _, L', gs', by omega, by omega, by simp, HR.out⟩
        case measure => simp [intOf]; omega
      · have e0 : (kind == 0) = false := by simp [k0]
        have e1 : (kind == 1) = false := by simp [k1]
        have e2 : (kind == 2) = false := by simp [k2]
        have e4 : (kind == 4) = false := by simp [k4]
        have HR := Lib.hid HRW.out.skip
        go_wp2_with fail
        go_roundw
        case rel => exact ⟨j + 1, k', S', L', gs', by omega, by omega, by simp, HR.out⟩
        case measure => simp [intOf]; omega
    · have HD := Lib.hid (HM.out.done hj40)
      by_cases h40 : j < es.length
      · have h41 : ¬ j < 40 := by omega
        go_wp2_with fail
        go_ret2
        exact HD.out
      · go_wp2_with fail
        go_ret2
        exact HD.out
end
end Go.Proofs.YtldmplfgnpepjaaDoor.Wal
