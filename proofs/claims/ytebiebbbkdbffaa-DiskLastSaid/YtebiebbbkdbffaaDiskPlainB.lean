/-
  Plain facts on crashes: with none, with all, byte by byte.
-/
import Derived.Test.YtebiebbbkdbffaaDiskRefG
namespace Go.Proofs.Ytebiebbbkdbffaa.Disk
open Go

theorem crash_whole {z : Nat} {torn : Int} {L : List ByteArray} (h : torn? z torn = false) (ws : List Wr) : crashL z torn L ws = landL L ws := by
  rcases List.eq_nil_or_concat ws with rfl | ⟨a, w, rfl⟩
  · rfl
  · rw [List.concat_eq_append, crashL_snoc, landL_snoc]
    unfold tear
    rw [h]
    rfl
/-- Without survivors. -/
theorem crash_no (S : St) (n : Nat) (torn : Int) : (crashS S (List.replicate n false) torn).dur = S.dur := by
  show crashL S.z torn S.dur (chosen S.cache (List.replicate n false)) = S.dur
  rw [chosen_false _ _ fun b hb => (List.mem_replicate.1 hb).2]
  rfl
/-- With all of them, none torn. -/
theorem crash_all (S : St) (n : Nat) (h : S.cache.length ≤ n) : (crashS S (List.replicate n true) (-1)).dur = con S := by
  show crashL S.z (-1) S.dur (chosen S.cache (List.replicate n true)) = con S
  rw [chosen_all _ _ (by simpa using h) fun b hb => (List.mem_replicate.1 hb).2, crash_whole rfl]
  rfl
/-- The byte at a place. -/
def byt (x : ByteArray) (k : Nat) : Option UInt8 := x.data.toList[k]?
theorem byt_some {x : ByteArray} {k : Nat} (h : k < x.size) : ∃ b, byt x k = some b := by
  have : k < x.data.toList.length := by simpa using h
  exact ⟨_, List.getElem?_eq_getElem this⟩
/-- .. is as the sector had it, or as some write to it. -/
def Old (L : List ByteArray) (ws : List Wr) (i k : Nat) (b : Option UInt8) : Prop := b = byt (at0 L i) k ∨ ∃ w ∈ ws, w.p = i ∧ byt w.s k = b
theorem at0_set_same {L : List ByteArray} {i : Nat} {x : ByteArray} (h : i < L.length) : at0 (L.set i x) i = x := by
  unfold at0
  rw [List.getD_eq_getElem?_getD, List.getElem?_set, if_pos rfl, if_pos h]
  rfl
theorem at0_set_other {L : List ByteArray} {i j : Nat} {x : ByteArray} (h : j ≠ i) : at0 (L.set j x) i = at0 L i := by
  unfold at0
  rw [List.getD_eq_getElem?_getD, List.getD_eq_getElem?_getD, List.getElem?_set_ne h]
theorem land_old {i k : Nat} : ∀ (ws : List Wr) (L : List ByteArray), i < L.length → Old L ws i k (byt (at0 (landL L ws) i) k)
  | [], L, _ => .inl rfl
  | w :: ws, L, hi => by
    rw [landL_cons]
    rcases land_old ws (L.set w.p w.s) (by rw [List.length_set]; exact hi) with h | ⟨x, hx, h1, h2⟩
    · by_cases e : w.p = i
      · subst e
        rw [at0_set_same hi] at h
        exact .inr ⟨w, by simp, rfl, h.symm⟩
      · rw [at0_set_other e] at h
        exact .inl h
    · exact .inr ⟨x, by simp [hx], h1, h2⟩
theorem byt_join {x y : ByteArray} {t z k : Nat} (hx : x.size = z) (hy : y.size = z) (ht : t < z) (_hk : k < z) : byt (x.extract 0 t ++ y.extract t z) k = byt x k ∨ byt (x.extract 0 t ++ y.extract t z) k = byt y k := by
  have hxl : x.data.toList.length = z := by simpa using hx
  have hyl : y.data.toList.length = z := by simpa using hy
  have e : (x.extract 0 t ++ y.extract t z).data.toList = x.data.toList.take t ++ y.data.toList.drop t := by
    rw [ByteArray.data_append, Array.toList_append]
    have e1 : (x.extract 0 t).data.toList = x.data.toList.take t := by
      rw [Lib.extract_data, List.drop_zero, Nat.sub_zero]
    have e2 : (y.extract t z).data.toList = y.data.toList.drop t := by
      rw [Lib.extract_data, List.take_of_length_le (by rw [List.length_drop]; omega)]
    rw [e1, e2]
  unfold byt
  rw [e]
  by_cases h : k < t
  · left
    rw [List.getElem?_append_left (by rw [List.length_take]; omega), List.getElem?_take, if_pos h]
  · right
    rw [List.getElem?_append_right (by rw [List.length_take]; omega), List.length_take, List.getElem?_drop]
    congr 1
    omega
theorem Old.mono {L : List ByteArray} {ws ws' : List Wr} {i k : Nat} {b : Option UInt8} (h : Old L ws i k b) (hs : ∀ w ∈ ws, w ∈ ws') : Old L ws' i k b := by
  rcases h with h | ⟨w, hw, h⟩
  · exact .inl h
  · exact .inr ⟨w, hs w hw, h⟩
/-- Behind any crash each byte is as it was durable, or as some write of the cache had it. -/
theorem crash_old {S : St} (ok : Ok S) (keep : List Bool) (torn : Int) {i k : Nat} (hi : i < S.dur.length) (hk : k < S.z) : Old S.dur S.cache i k (byt (at0 (crashS S keep torn).dur i) k) := by
  show Old S.dur S.cache i k (byt (at0 (crashL S.z torn S.dur (chosen S.cache keep)) i) k)
  have hm : ∀ w ∈ chosen S.cache keep, w ∈ S.cache := fun w hw => chosen_mem _ _ hw
  generalize chosen S.cache keep = ws at hm ⊢
  rcases List.eq_nil_or_concat ws with rfl | ⟨a, w, rfl⟩
  · exact .inl rfl
  · rw [List.concat_eq_append] at hm ⊢
    rw [crashL_snoc]
    have ha : ∀ x ∈ a, x ∈ S.cache := fun x hx => hm x (by simp [hx])
    have hw := hm w (by simp)
    have hl := (land_old (k := k) a S.dur hi).mono ha
    by_cases e : w.p = i
    · subst e
      rw [at0_set_same (by rw [landL_length]; exact hi)]
      cases ht : torn? S.z torn
      · unfold tear
        rw [ht]
        exact .inr ⟨w, hw, rfl, rfl⟩
      · unfold tear
        rw [ht]
        unfold torn? at ht
        simp only [Bool.and_eq_true, decide_eq_true_eq] at ht
        have hfit := ok.fit.take a ha
        rcases byt_join (k := k) (ok.fit.wr w hw).2 (hfit.at (ok.fit.wr w hw).1) (show torn.toNat < S.z by omega) hk with h | h
        · exact .inr ⟨w, hw, rfl, h.symm⟩
        · show Old S.dur S.cache w.p k (byt (w.s.extract 0 torn.toNat ++ (at0 (landL S.dur a) w.p).extract torn.toNat S.z) k)
          rw [h]
          exact hl
    · rw [at0_set_other e]
      exact hl
end Go.Proofs.Ytebiebbbkdbffaa.Disk
