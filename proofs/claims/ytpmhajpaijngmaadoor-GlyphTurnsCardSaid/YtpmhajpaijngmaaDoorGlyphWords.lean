/-
  Words and the document's Words.
-/
import Derived.Test.YtpmhajpaijngmaaDoorGlyphTexts
namespace Go.Proofs.YtpmhajpaijngmaaDoor.Glyph
open Go.RowKit

theorem blankB_iff (r : Nat) : blankB (r : Int) = true ↔ (r = 32 ∨ r = 9 ∨ r = 13 ∨ r = 10) := by
  unfold blankB
  simp only [Bool.or_eq_true, beq_iff_eq]
  omega
theorem words_blank {s : ByteArray} {p r k : Nat} (hp : p < s.size) (H : AtHand s p r k) (hb : blankB (r : Int) = true) :
    k = 1 ∧ ∀ cur, wordsA cur ((bl s).drop p) = if cur = [] then wordsA [] ((bl s).drop (p + 1)) else cur :: wordsA [] ((bl s).drop (p + 1)) := by
  rw [blankB_iff] at hb
  obtain ⟨h1, h2⟩ := low_piece _ (drop_ne s p hp) (by rw [H.one]; omega)
  rw [H.2.2] at h1
  rw [H.one] at h2
  refine ⟨h1, fun cur => ?_⟩
  have e : (bl s).drop (p + 1) = ((bl s).drop p).drop 1 := by rw [drop_drop]
  rw [e]
  cases hl : (bl s).drop p with
  | nil => exact absurd hl (drop_ne s p hp)
  | cons c t =>
    rw [hl] at h2
    have hc : c.toNat = r := h2
    have hbl : blank c = true := by unfold blank; rw [hc]; exact decide_eq_true hb
    rw [wordsA, if_pos hbl]
    rfl
theorem words_run {s : ByteArray} {p r k : Nat} (hp : p < s.size) (H : AtHand s p r k) (hb : blankB (r : Int) = false) :
    ∀ cur, wordsA cur ((bl s).drop p) = wordsA (cur ++ ((bl s).drop p).take k) ((bl s).drop (p + k)) := by
  have hnb : ¬ (r = 32 ∨ r = 9 ∨ r = 13 ∨ r = 10) := by rw [← blankB_iff, hb]; decide
  intro cur
  have hall : ∀ c ∈ ((bl s).drop p).take k, blank c = false := by
    intro c hc
    apply decide_eq_false
    by_cases h : r < 128
    · obtain ⟨h1, h2⟩ := low_piece _ (drop_ne s p hp) (by rw [H.one]; exact h)
      rw [H.2.2] at h1
      rw [H.one] at h2
      subst h1
      cases hl : (bl s).drop p with
      | nil => exact absurd hl (drop_ne s p hp)
      | cons d t =>
        rw [hl] at hc h2
        have hd : d.toNat = r := h2
        have : c = d := by simpa using hc
        rw [this, hd]
        exact hnb
    · have := high_piece _ (drop_ne s p hp) (by rw [H.one]; omega) c (by rw [H.2.2]; exact hc)
      omega
  have := wordsA_run (((bl s).drop p).take k) cur ((bl s).drop (p + k)) hall
  rw [← drop_drop, List.take_append_drop] at this
  rw [drop_drop] at this
  exact this
def part (s : ByteArray) (q p : Nat) : List UInt8 := ((bl s).drop q).take (p - q)
theorem part_self (s : ByteArray) (q : Nat) : part s q q = [] := by unfold part; simp
theorem part_more (s : ByteArray) (q p k : Nat) (h : q ≤ p) : part s q p ++ ((bl s).drop p).take k = part s q (p + k) := by
  unfold part
  have e : p + k - q = (p - q) + k := by omega
  rw [e, take_add', drop_drop, show q + (p - q) = p by omega]
theorem part_ne (s : ByteArray) (q p : Nat) (h : q < p) (hp : p ≤ s.size) : part s q p ≠ [] := by
  intro e
  have := congrArg List.length e
  unfold part at this
  rw [List.length_take, List.length_drop, bl_len, List.length_nil] at this
  omega
theorem part_bl (s : ByteArray) (q p : Nat) : bl (s.extract q p) = part s q p := bl_extract s q p
theorem part_end (s : ByteArray) (q p : Nat) (hp : s.size ≤ p) : part s q p = (bl s).drop q := by
  unfold part
  rw [List.take_of_length_le]
  rw [List.length_drop, bl_len]
  omega
theorem owns_iter {w : World} {B : Nat} {e : TypeId} {v : Value} {n : Nat} {xs : List Value} (h : w.ownsRow B e 1 v n xs) {k : Nat} {s : ByteArray} {p : Nat} (hk : w.heap[k]? = some (.stringIter s p)) (q : Nat) : (w.iterAt k s q).ownsRow B e 1 v n xs := by
  refine ⟨h.1, ?_⟩
  rcases h.2 with hn | ⟨g, cap, cur, hv, hbg, hg, rest⟩
  · exact .inl hn
  · have hkg : g ≠ k := by
      intro e1
      rw [e1, hk] at hg
      cases hg
    exact .inr ⟨g, cap, cur, hv, hbg, (Lib.iterAt_other w k g s q hkg).trans hg, rest⟩
/-- The words so far, the iterator, and what lay there before. -/
def WordsAt (s : ByteArray) (w : World) (v st : Value) (wr : World) : Prop :=
  ∃ (p q : Nat) (acc : List ByteArray), p ≤ s.size ∧ q ≤ p ∧ st = .int .i64 q ∧ acc.length ≤ q ∧ wr.ownsRow w.heap.size 9 1 v acc.length (acc.map Value.string) ∧ wr.heap[w.heap.size]? = some (.stringIter s p) ∧ Below w.heap.size w wr ∧
    Hid (acc.map bl ++ wordsA (part s q p) ((bl s).drop p) = wordsA [] (bl s))
def WordsGives (s : ByteArray) (w : World) (e : Ending) (w' : World) : Prop := ∃ v, e = .returned v ∧ Reads w' v ((wordsA [] (bl s)).map ba) ∧ Below w.heap.size w w'
theorem map_ba_bl (acc : List ByteArray) : (acc.map bl).map ba = acc := by
  rw [List.map_map]
  conv => rhs; rw [← List.map_id acc]
  rfl
theorem WordsGives.of {s : ByteArray} {w w' : World} {v : Value} {acc : List ByteArray} (h : w'.ownsRow w.heap.size 9 1 v acc.length (acc.map Value.string)) (hb : Below w.heap.size w w') (hx : acc.map bl = wordsA [] (bl s)) : WordsGives s w (.returned v) w' :=
  ⟨v, rfl, by rw [← hx, map_ba_bl]; exact reads_owns h, hb⟩
theorem owns_kept {w0 w2 : World} {B : Nat} {v : Value} {n : Nat} {xs : List Value} {o : Obj} (hown : w0.ownsRow B 9 1 v n xs) (hgrow : (w0.alloc o).grownBy w2 v.ownBlock) {k : Nat} {s : ByteArray} {p : Nat} (hk : w0.heap[k]? = some (.stringIter s p)) : w2.heap[k]? = some (.stringIter s p) := by
  have h1 := ((Lib.OthersKept.refl 9 none w0).alloc o).grown hgrow (fun g hg => by
    obtain ⟨c, fz, h⟩ := Lib.ownsRowF_kind (World.ownsRowF_of (hown.alloc o)) g hg
    exact ⟨c, fz, h⟩)
  exact h1 k _ hk (by simp) (fun _ _ e => by cases e)
set_option maxHeartbeats 2000000 in
theorem words_any (s : ByteArray) (w : World) (hs : s.size ≤ 1000000) : Calls Tryd.prog 21 #[.string s] w (WordsGives s w) := by
  obtain ⟨i0, hi, hz0, hz1, hz2⟩ := info_parts infoString
  have HI : Hid (WordsAt s w (.slice none 0 0) (.int .i64 0) (w.iter s 0)) := ⟨0, 0, [], Nat.zero_le _, Nat.le_refl _, rfl, Nat.le_refl _, World.ownsRow_nil _ _ _ _, World.iter_heap w s 0, below_iter w s 0, Lib.hid (by rw [part_self]; rfl)⟩
  go_enter Tryd.func21, Tryd.ntmps21
  go_wp2
  go_loopw [3, 4] (fun v st wr => WordsAt s w v st wr) (fun _ _ wr => s.size - wr.iterPos w.heap.size)
  case atStart => exact HI.out
  case round =>
    clear HI
    obtain ⟨p, q, acc, hps, hqp, rfl, hal, hown, hit, hb, hx⟩ := hrel
    have hpos : Hid (wr.iterPos w.heap.size = p) := Lib.hid (by simp only [World.iterPos, hit])
    have hbs := hb.size
    by_cases hp : p < s.size
    · obtain ⟨r, k, H, hd, hk, hk2, hr⟩ := at_hand s p hp
      have hnx : ∀ ty, (Instr.next (.pointer (some ⟨w.heap.size, 0, none⟩)) true ty).run Tryd.prog wr = .ok (.tuple #[.bool true, .int .i64 p, .int .i32 r]) (wr.iterAt w.heap.size s (p + k)) := fun ty => by
        have := Lib.run_next_any_at (P := Tryd.prog) wr w.heap.size s p ty hit hp
        rw [hd] at this
        exact this
      have hown2 := owns_iter hown hit (p + k)
      have hit2 := Lib.hid (Lib.iterAt_heap wr w.heap.size s p (p + k) hit)
      have hb2 := Lib.hid (Lib.below_iterAt hb (k := w.heap.size) (Nat.le_refl _) s (p + k))
      have hsz := Lib.iterAt_size wr w.heap.size s (p + k)
      have hi' := fun W => blank_any (r : Int) W
      clear hd hit hb hown
      generalize hW : wr.iterAt w.heap.size s (p + k) = W0 at *
      clear hW
      have hsz' : w.heap.size ≤ W0.heap.size := by omega
      clear hsz
      have hm2 : Hid (W0.iterPos w.heap.size = p + k) := Lib.hid (by simp only [World.iterPos, hit2.out])
      cases hv : blankB (r : Int)
      · have hN := Lib.hid (words_run hp H.out hv)
        rw [hv] at hi'
        go_wp2_with fail
        refine (hi' _).mono ?_
        rintro e w' ⟨rfl, rfl⟩
        go_wp2
        go_roundw
        case rel => exact ⟨p + k, q, acc, hk2, by omega, rfl, hal, hown2, hit2.out, hb2.out, Lib.hid (by rw [← hx.out, hN.out, part_more s q p k hqp])⟩
        case measure => rw [hm2.out, hpos.out]; omega
      · obtain ⟨rfl, hN'⟩ := words_blank hp H.out hv
        have hN := Lib.hid hN'
        clear hN'
        rw [hv] at hi'
        by_cases hlt : q < p
        · have hlt' : (q : Int) < (p : Int) := by omega
          have hps' : (p : Int) ≤ (s.size : Int) := by omega
          have HX : Hid ((acc ++ [s.extract q p]).map bl ++ wordsA (part s (p + 1) (p + 1)) ((bl s).drop (p + 1)) = wordsA [] (bl s)) := Lib.hid (by
            rw [← hx.out, hN.out, if_neg (part_ne s q p hlt hps), part_self, List.map_append]
            simp [part_bl])
          have hqp' : (q : Int) ≤ (p : Int) := by omega
          clear hx
          go_wp2_with fail
          refine (hi' _).mono ?_
          rintro e w' ⟨rfl, rfl⟩
          go_wp2_with (at_builtin; refine wpList_append_own _ rfl _ _ 31 rfl w.heap.size 9 i0 (.string ⟨#[]⟩) 1 16 Tryd.underlying31 hi hz0 hz1 hz2 rfl (by decide) _ _ _ rfl (hown2.alloc _) ⟨W0.heap.size, 0, none⟩ 1 1 [.string (s.extract q p)] rfl rfl ?c1 ?c2 ?c3 ?c4 ?c5 ?_)
          case c1 => exact new_cell W0 _
          case c2 => intro u hu; simp at hu; subst hu; rfl
          case c3 => unfold maxLen; omega
          case c4 => omega
          case c5 => simp; omega
          intro v' w2 hown3 hgrow _
          have hit3 := owns_kept hown2 hgrow hit2.out
          have HB2 := Lib.hid (((hb2.out.alloc (by omega) _)).grown hgrow (by simp; omega) (fun k hk => (hown2.lt k hk).1))
          have hm3 : Hid (w2.iterPos w.heap.size = p + 1) := Lib.hid (by simp only [World.iterPos, hit3])
          have HIT := Lib.hid hit3
          clear hit3 hgrow
          go_wp2
          go_roundw
          case rel => exact ⟨p + 1, p + 1, acc ++ [s.extract q p], hk2, Nat.le_refl _, int_eq (by omega), by simp; omega, by simpa using hown3, HIT.out, HB2.out, HX⟩
          case measure => rw [hm3.out, hpos.out]; omega
        · obtain rfl : q = p := by omega
          have hlt' : ¬ (q : Int) < (q : Int) := by omega
          go_wp2_with fail
          refine (hi' _).mono ?_
          rintro e w' ⟨rfl, rfl⟩
          go_wp2
          go_roundw
          case rel => exact ⟨q + 1, q + 1, acc, hk2, Nat.le_refl _, int_eq (by omega), by omega, hown2, hit2.out, hb2.out, Lib.hid (by rw [← hx.out, hN.out, part_self, part_self, if_pos rfl])⟩
          case measure => rw [hm2.out, hpos.out]; omega
    · have hnx : ∀ ty, (Instr.next (.pointer (some ⟨w.heap.size, 0, none⟩)) true ty).run Tryd.prog wr = _ := fun ty => Lib.run_next_end_at wr w.heap.size s p ty hit hp
      by_cases hlt : q < s.size
      · have hlt' : (q : Int) < (s.size : Int) := by omega
        have HX : Hid ((acc ++ [s.extract q s.size]).map bl = wordsA [] (bl s)) := Lib.hid (by
          have hne : part s q p ≠ [] := part_ne s q p (by omega) hps
          rw [← hx.out, drop_end s p hp, wordsA, if_neg hne, part_end s q p (by omega), List.map_append]
          simp [bl_from])
        clear hx
        go_wp2_with (at_builtin; refine wpList_append_own _ rfl _ _ 31 rfl w.heap.size 9 i0 (.string ⟨#[]⟩) 1 16 Tryd.underlying31 hi hz0 hz1 hz2 rfl (by decide) _ _ _ rfl (hown.alloc _) ⟨wr.heap.size, 0, none⟩ 1 1 [.string (s.extract q s.size)] rfl rfl ?c1 ?c2 ?c3 ?c4 ?c5 ?_)
        case c1 => exact new_cell wr _
        case c2 => intro u hu; simp at hu; subst hu; rfl
        case c3 => unfold maxLen; omega
        case c4 => omega
        case c5 => simp; omega
        intro v' w2 hown3 hgrow _
        have HB2 := Lib.hid (((hb.alloc (by omega) _)).grown hgrow (by simp; omega) (fun k hk => (hown.lt k hk).1))
        go_wp2
        go_ret
        exact WordsGives.of (acc := acc ++ [s.extract q s.size]) (by simpa using hown3) HB2.out HX.out
      · have hlt' : ¬ (q : Int) < (s.size : Int) := by omega
        have HX : Hid (acc.map bl = wordsA [] (bl s)) := Lib.hid (by
          have he : part s q p = [] := by rw [part_end s q p (by omega), drop_end s q hlt]
          rw [← hx.out, drop_end s p hp, he]
          simp [wordsA])
        go_wp2
        go_ret
        exact WordsGives.of hown hb HX.out
end Go.Proofs.YtpmhajpaijngmaaDoor.Glyph
