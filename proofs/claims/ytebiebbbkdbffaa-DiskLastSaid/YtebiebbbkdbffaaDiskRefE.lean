/-
  The document's disk: Read, Flush.
-/
import Derived.Test.YtebiebbbkdbffaaDiskRefD
namespace Go.Proofs.Ytebiebbbkdbffaa.Disk
open Go Go.RowKit
open Go.Proofs.Ytebiebbbkdbffaa.Sha (Kept wp_region_drawn_tail wp_region_kept_tail quiet_load_row)

theorem at_land {L : List ByteArray} {ws : List Wr} {k p : Nat} {x : Wr} (h : ws[k]? = some x) (hp : p < L.length) : at0 (landL L (ws.take (k + 1))) p = if x.p = p then x.s else at0 (landL L (ws.take k)) p := by
  rw [landL_take h]
  unfold at0
  rw [List.getD_eq_getElem?_getD, List.getElem?_set]
  split
  · rename_i e
    rw [if_pos (by rw [landL_length]; omega)]
    rfl
  · rw [List.getD_eq_getElem?_getD]
theorem owns_writeQ {w : World} {B : Nat} {t : TypeId} {v : Value} {ws : List Wr} (h : w.ownsRow B t 2 v ws.length (ws.flatMap wC)) {k : Nat} {x : Wr} (hk : ws[k]? = some x) :
    ∃ g c, v = .slice (some ⟨g, 0, none⟩) ws.length c ∧ g < w.heap.size ∧ w.cell? ⟨g, k * 2, none⟩ = some (.int .i64 x.p) ∧ w.cell? ⟨g, k * 2 + 1, none⟩ = some (.string x.s) ∧ w.rangeAt g (k * 2) [.int .i64 x.p, .string x.s] := by
  obtain ⟨g, c, hv, hg, h1, h2, h3⟩ := owns_write h hk
  exact ⟨g, c, hv, (h.lt g hg).2, h1, h2, h3⟩
set_option maxHeartbeats 1000000 in
theorem readQ_any (w : World) (B : Nat) (lv cv : Value) (S : St) (i : Int) (h : IsQ w B lv cv S) (ok : Ok S) :
    Calls Try.prog 26 #[qV S lv cv, .int .i64 i] w fun e w' => e = .returned (.tuple #[.string (readS S i).1, .int .i64 (readS S i).2]) ∧ Below w.heap.size w w' := by
  obtain ⟨la, lc, rfl⟩ := owns_slice h.l
  obtain ⟨ca, cc, rfl⟩ := owns_slice h.c
  have HI := Lib.hid h
  have HB : Hid (∀ o, Below w.heap.size w (w.alloc o)) := fun o => (Below.refl _ _).alloc (Nat.le_refl _) o
  unfold readS
  by_cases hr : i < 0 ∨ (S.dur.length : Int) ≤ i
  · rw [if_pos hr]
    rcases (show i < 0 ∨ (0 ≤ i ∧ (S.dur.length : Int) ≤ i) by omega) with h1 | ⟨h1, h2⟩
    all_goals
      clear h hr
      go_enter Try.func26, Try.ntmps26
      go_wp2_with fail
      go_ret2
      exact ⟨rfl, HB.out _⟩
  · rw [if_neg hr]
    obtain ⟨p, rfl⟩ := Int.eq_ofNat_of_zero_le (show 0 ≤ i by omega)
    have hp : p < S.dur.length := by omega
    have hd1 : decide ((p : Int) < 0) = false := by simp
    have hd2 : decide (S.dur.length ≤ p) = false := by simp; omega
    clear hr
    obtain ⟨z, dur, cache, left, full, off, ops⟩ := S
    cases off
    · obtain ⟨g, c', hv, _, hgs, hgc, _⟩ := owns_block h.l (by show 0 < dur.length; have : p < dur.length := hp; omega)
      obtain ⟨rfl, -, rfl⟩ := Value.slice.inj hv
      have kc : w.cell? ⟨g, p, none⟩ = some (.string (at0 dur p)) := hgc _ _ (by
        have : p < dur.length := hp
        rw [List.getElem?_map, List.getElem?_eq_getElem this]; unfold at0; rw [List.getD_eq_getElem?_getD, List.getElem?_eq_getElem this]; rfl)
      have HC := Lib.hid ok.cache
      have HO := Lib.hid ok.ops
      have HF := Lib.hid ok.few
      have hfew : dur.length ≤ 4096 := ok.few
      have hcl : cache.length ≤ 1000000 := Nat.le_trans ok.cache ok.ops
      clear h hv hgc
      go_enter Try.func26, Try.ntmps26
      go_wp2_with fail
      go_loopw [6, 7] (fun v i wr => ∃ k : Nat, k ≤ cache.length ∧ i = .int .i64 k ∧ v = .string (at0 (landL dur (cache.take k)) p) ∧ wr = w.alloc (.cells #[.int .i64 z, .slice (some ⟨g, 0, none⟩) dur.length lc, .slice ca cache.length cc, .int .i64 left, .bool false, .bool full, .int .i64 ops] qT)) (fun _ i _ => cache.length - (intOf i).toNat)
      case atStart => exact ⟨0, Nat.zero_le _, rfl, rfl, rfl⟩
      case round =>
        obtain ⟨k, hk, rfl, rfl, rfl⟩ := hrel
        by_cases hlt : k < cache.length
        · obtain ⟨x, hx⟩ : ∃ x, cache[k]? = some x := ⟨cache[k], List.getElem?_eq_getElem hlt⟩
          obtain ⟨g2, c2, hv, hg2, k0, k1, _⟩ := owns_writeQ HI.out.c hx
          obtain ⟨rfl, -, rfl⟩ := Value.slice.inj hv
          have HT := Lib.hid (at_land (L := dur) hx hp)
          clear hv hx
          by_cases he : x.p = p
          · have h1 : ((x.p : Int) == (p : Int)) = true := by simp [he]
            have HT2 := Lib.hid (HT.out.trans (if_pos he))
            clear he HT
            go_wp2_with fail
            go_roundw
            case rel => exact ⟨k + 1, by omega, by simp, by rw [HT2.out], trivial⟩
            case measure => simp [intOf]; omega
          · have h1 : ((x.p : Int) == (p : Int)) = false := by simp; omega
            have HT2 := Lib.hid (HT.out.trans (if_neg he))
            clear he HT
            go_wp2_with fail
            go_roundw
            case rel => exact ⟨k + 1, by omega, by simp, by rw [HT2.out], trivial⟩
            case measure => simp [intOf]; omega
        · have e : cache.take k = cache := List.take_of_length_le (by omega)
          have HE := Lib.hid e
          clear e
          go_wp2_with fail
          go_ret2
          refine ⟨?_, HB.out _⟩
          rw [HE.out]
          rfl
    · clear h
      go_enter Try.func26, Try.ntmps26
      go_wp2_with fail
      go_ret2
      exact ⟨rfl, HB.out _⟩
end Go.Proofs.Ytebiebbbkdbffaa.Disk
