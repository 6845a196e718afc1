/-
  Walks of what the laws share: Light, works, Of, To, one.
-/
import Derived.Test.YtkbeppmjdjddhaaDoorBatchSetE
import Derived.Test.YtkbeppmjdjddhaaDoorBatchRefR
import Derived.Test.YtkbeppmjdjddhaaDoorBatchRead
import Derived.Test.YtkbeppmjdjddhaaDoorBatchTexts
import Derived.Test.YtkbeppmjdjddhaaDoorNetsSame
namespace Go.Proofs.YtkbeppmjdjddhaaDoor.Batch
open Go Go.RowKit
open Nets (Tab)

/-- A change among the arguments, light or not. -/
def OkC (c : Chg) : Prop := c.key.size ≤ 9223372036854775807 ∧ c.val.size ≤ 9223372036854775807
def LightC (c : Chg) : Prop := c.key.size ≤ 300 ∧ c.val.size ≤ 1000
def LightL (l : List Chg) : Prop := l.length ≤ 40 ∧ ∀ c ∈ l, LightC c
def LightPost (w : World) (l : List Chg) (e : Ending) (w' : World) : Prop := ∃ b : Bool, e = .returned (.bool b) ∧ (b = true → LightL l) ∧ w = w'
set_option maxHeartbeats 2000000 in
theorem light_any (v : Value) (l : List Chg) (w : World) (h : ReadsC w v l) (ho : ∀ c ∈ l, OkC c) (hm : l.length ≤ 9223372036854775807) :
    Calls Tryd.prog 9 #[v] w (LightPost w l) := by
  rcases h with ⟨a, cap, rfl, rfl⟩ | ⟨h0, b, off, cap, rfl, h3, h4⟩
  · go_enter Tryd.func9, Tryd.ntmps9
    go_wp2_with fail
    go_loopw [3] (fun i wr => i = .int .i64 0 ∧ wr = w) (fun i _ => 0 - (intOf i).toNat)
    case atStart => exact ⟨rfl, rfl⟩
    case round =>
      obtain ⟨rfl, rfl⟩ := hrel
      go_wp2_with fail
      go_ret
      exact ⟨_, rfl, fun _ => ⟨by simp, by simp⟩, rfl⟩
  · have HC := Lib.hid h4
    have HO := Lib.hid ho
    clear h4 ho
    go_enter Tryd.func9, Tryd.ntmps9
    go_wp2_with fail
    go_loopw [3] (fun i wr => ∃ k : Nat, k ≤ l.length ∧ k ≤ 40 ∧ i = .int .i64 k ∧ (∀ e ∈ l.take k, LightC e) ∧ wr = w) (fun i _ => l.length - (intOf i).toNat)
    case atStart => exact ⟨0, Nat.zero_le _, by omega, rfl, by simp, rfl⟩
    case round =>
      obtain ⟨k, hk, hk2, rfl, hn, rfl⟩ := hrel
      have HN := Lib.hid hn
      clear hn
      by_cases hlt : k < l.length ∧ k < 40
      · obtain ⟨e, hke⟩ : ∃ e, l[k]? = some e := ⟨l[k], List.getElem?_eq_getElem hlt.1⟩
        have hl1 := hlt.1
        have hl2 := hlt.2
        obtain ⟨s1, s2⟩ := HO.out e (List.mem_of_getElem? hke)
        obtain ⟨c0, c1, c2⟩ := three (HC.out k e hke)
        have HK := Lib.hid hke
        clear hke hlt
        by_cases g1 : 300 < e.key.size
        · go_wp2_with fail
          go_ret
          exact ⟨_, rfl, fun h => (by cases h), rfl⟩
        · by_cases g2 : 1000 < e.val.size
          · go_wp2_with fail
            go_ret
            exact ⟨_, rfl, fun h => (by cases h), rfl⟩
          · have HT := Lib.hid (take_next (p := LightC) HK.out HN.out ⟨by omega, by omega⟩)
            go_wp2_with fail
            go_roundw
            case rel => exact ⟨k + 1, by omega, by omega, by simp, HT.out, trivial⟩
            case measure => simp [intOf]; omega
      · have HB : Hid (decide ((l.length : Int) ≤ 40) = true → LightL l) := Lib.hid fun h => by
          have h2 := of_decide_eq_true h
          refine ⟨by omega, ?_⟩
          have hq : k = l.length := by omega
          have := HN.out
          rw [hq, List.take_length] at this
          exact this
        by_cases h40 : k < l.length
        · have h41 : ¬ k < 40 := by omega
          have hd : decide ((l.length : Int) ≤ 40) = false := decide_eq_false (by omega)
          go_wp2_with fail
          go_ret
          exact ⟨_, rfl, fun h => (by cases h), rfl⟩
        · generalize hd : decide ((l.length : Int) ≤ 40) = bb at HB
          go_wp2_with fail
          go_ret
          exact ⟨_, rfl, HB.out, rfl⟩

/-! Changes to and fro. -/
theorem box_at {w W : World} {t : TypeId} {e : Chg} (hb : Below (w.alloc (boxC t e)).heap.size (w.alloc (boxC t e)) W) : W.rangeAt w.heap.size 0 (chC e) := fun j v hv => by
  rw [hb.cell (p := ⟨w.heap.size, 0 + j, none⟩) (by simp)]
  exact new_box w t e j v hv
set_option maxHeartbeats 1000000 in
theorem of_any (c : Chg) (w : World) : Calls Tryd.prog 14 #[chV c] w fun e w' => e = .returned (chV c) ∧ Below w.heap.size w w' := by
  have h1 : Below w.heap.size w (w.alloc (boxC chgT c)) := (Below.refl _ _).alloc (Nat.le_refl _) _
  have HB := Lib.hid (h1.alloc h1.size (boxC refT c))
  have hL := Lies.new (w.alloc (boxC chgT c)) #[.string c.key, .string c.val, .bool c.gone] refT
  rw [show (w.alloc (boxC chgT c)).heap.size = w.heap.size + 1 by simp] at hL
  have HL := Lib.hid (load_ref _ (w.heap.size + 1) refT _ rfl hL)
  clear h1 hL
  go_enter Tryd.func14, Tryd.ntmps14
  go_wp2_with fail
  refine bodyPost_ret (results_one Tryd.results14 _ _ (w.heap.size + 1) _ rfl HL.out) rfl ?_
  exact ⟨rfl, HB.out⟩
set_option maxHeartbeats 1000000 in
theorem to_any (c : Chg) (w : World) : Calls Tryd.prog 23 #[chV c] w fun e w' => e = .returned (chV c) ∧ Below w.heap.size w w' := by
  have h1 : Below w.heap.size w (w.alloc (boxC refT c)) := (Below.refl _ _).alloc (Nat.le_refl _) _
  have HB := Lib.hid (h1.alloc h1.size (boxC chgT c))
  have hL := Lies.new (w.alloc (boxC refT c)) #[.string c.key, .string c.val, .bool c.gone] chgT
  rw [show (w.alloc (boxC refT c)).heap.size = w.heap.size + 1 by simp] at hL
  have HL := Lib.hid (load_chg _ (w.heap.size + 1) chgT _ rfl hL)
  clear h1 hL
  go_enter Tryd.func23, Tryd.ntmps23
  go_wp2_with fail
  refine bodyPost_ret (results_one Tryd.results23 _ _ (w.heap.size + 1) _ rfl HL.out) rfl ?_
  exact ⟨rfl, HB.out⟩

/-! A change, made: in the batch as in the document's list. -/
theorem norm_false {k v : ByteArray} : Chg.norm ⟨k, v, false⟩ = ⟨k, v, false⟩ := rfl
theorem norm_true {k v : ByteArray} : Chg.norm ⟨k, v, true⟩ = ⟨k, ⟨#[]⟩, true⟩ := rfl
set_option maxHeartbeats 1000000 in
theorem one_any {w : World} {d : Bt} {q : List Chg} (h : Mem w d q) (hg : Good q) (c : Chg) (ho : OkC c) :
    Calls Tryd.prog 29 #[ptr d.pb, chV c] w (Recorded w d q c.norm) := by
  have hA : Below w.heap.size w (w.alloc (boxC refT c)) := (Below.refl _ _).alloc (Nat.le_refl _) _
  obtain ⟨k, v, g⟩ := c
  cases g
  · have HP := Lib.hid (put_any (h.alloc (boxC refT ⟨k, v, false⟩)) hg k v ho.1 ho.2)
    have HA := Lib.hid hA
    clear hA h hg ho
    go_enter Tryd.func29, Tryd.ntmps29
    go_wp2_with fail
    refine HP.out.mono ?_
    rintro r w1 ⟨d', rfl, hm, hs⟩
    have HS := Lib.hid (And.intro hm ((Step.of_below d HA.out).trans hs))
    clear hm hs
    go_wp2_with fail
    go_ret
    exact ⟨d', rfl, HS.out.1, HS.out.2⟩
  · have HP := Lib.hid (del_any (h.alloc (boxC refT ⟨k, v, true⟩)) hg k ho.1)
    have HA := Lib.hid hA
    clear hA h hg ho
    go_enter Tryd.func29, Tryd.ntmps29
    go_wp2_with fail
    refine HP.out.mono ?_
    rintro r w1 ⟨d', rfl, hm, hs⟩
    have HS := Lib.hid (And.intro hm ((Step.of_below d HA.out).trans hs))
    clear hm hs
    go_wp2_with fail
    go_ret
    exact ⟨d', rfl, HS.out.1, HS.out.2⟩

/-! The chapter's example. -/
def exC : Chg := ⟨⟨#[97]⟩, ⟨#[98]⟩, false⟩
theorem ex_code : code [] exC = 0 := by decide
theorem ex_made : made [] exC = [exC] := by unfold made; rw [if_pos ex_code]; rfl
theorem ex_write : writeS exC = [49, 58, 43, 44, 49, 58, 97, 44, 49, 58, 98, 44] := by
  unfold writeS parts Nets.rowS exC Nets.putS
  simp only [Bool.false_eq_true, ↓reduceIte, List.map_cons, List.map_nil]
  rw [show (bl ⟨#[43]⟩).length = 1 from rfl, show (bl ⟨#[97]⟩).length = 1 from rfl, show (bl ⟨#[98]⟩).length = 1 from rfl, Lib.decDigits_one (by decide)]
  rfl
theorem textV_map (q : List Chg) : textV q = (q.map fun c => ba (writeS c)).map Value.string := by
  unfold textV
  rw [List.map_map]
  rfl
theorem texts_reads {w : World} {B : Nat} {v : Value} {q : List Chg} (h : w.ownsRow B strT 1 v q.length (textV q)) : Nets.Reads w v (q.map fun c => ba (writeS c)) := by
  refine Nets.reads_owns (B := B) ?_
  rw [← textV_map, List.length_map]
  exact h
theorem eq_seq (w : World) (d b : Nat) : (Op.equalIn (d + 1) 61 (itV b) .nilFunc).run Tryd.prog w = .ok false w := by
  simp [Op.equalIn, run_underlying Tryd.underlying61]
theorem neq_seq (w : World) (b : Nat) : (binOp .neq 61 (itV b) .nilFunc).run Tryd.prog w = .ok (.bool true) w := by
  simp only [binOp]
  simp [Op.equal, Op.maxDepth, eq_seq w 9999 b]
set_option maxRecDepth 100000 in
set_option maxHeartbeats 4000000 in
theorem works_any (w : World) (hT : Tab w) : Calls Tryd.prog 10 #[] w fun e w' => e = .returned (.bool true) ∧ Below w.heap.size w w' := by
  have HT := Lib.hid hT
  clear hT
  go_enter Tryd.func10, Tryd.ntmps10
  go_wp2_with fail
  refine (new_any w).mono ?_
  rintro e w1 ⟨d, rfl, hp, hB, hm, hb⟩
  have HM := Lib.hid (And.intro hm (And.intro hB hb))
  clear hm hb hB hp
  go_wp2_with fail
  refine (put_any HM.out.1 good_nil ⟨#[97]⟩ ⟨#[98]⟩ (by decide) (by decide)).mono ?_
  rintro e w2 ⟨d2, rfl, hm, hs⟩
  have HM2 : Hid (Mem w2 d2 [exC] ∧ d2.B = w.heap.size ∧ d2.pb = d.pb ∧ Below w.heap.size w w2) := Lib.hid ⟨by rw [← ex_made]; exact hm, hs.B.trans HM.out.2.1, hs.pb, HM.out.2.2.trans (hs.below HM.out.1 (by rw [HM.out.2.1]; exact Nat.le_refl _))⟩
  clear hm hs
  rw [show code [] (⟨⟨#[97]⟩, ⟨#[98]⟩, false⟩ : Chg) = 0 from ex_code, ← HM2.out.2.2.1]
  go_wp2_with fail
  refine (get_any HM2.out.1 (by simp [Rising]) (by simp) ⟨#[97]⟩).mono ?_
  rintro e w3 ⟨rfl, hb3⟩
  rw [show tells ⟨#[97]⟩ [exC] = exC from rfl, show (at? Chg.key ⟨#[97]⟩ [exC]).isSome = true from rfl]
  have HB3 : Hid (Mem (w3.alloc (boxC chgT exC)) d2 [exC] ∧ Below w.heap.size w (w3.alloc (boxC chgT exC))) := Lib.hid
    ⟨(HM2.out.1.below hb3).alloc _, (HM2.out.2.2.2.trans (hb3.mono HM2.out.2.2.2.size)).alloc (Nat.le_trans HM2.out.2.2.2.size hb3.size) _⟩
  clear hb3
  go_wp2_with fail
  refine (texts_walk HB3.out.1 (by simp) (fun x hx => by rw [List.mem_singleton] at hx; subst hx; exact ⟨by decide, by decide⟩) (HT.out.below (HB3.out.2.mono (Nat.le_refl _)))).mono ?_
  rintro e w4 ⟨v, rfl, ho, hb4⟩
  obtain ⟨b0, b1, b2⟩ := three (box_at hb4)
  simp only [Nat.zero_add] at b1 b2
  obtain ⟨g, off, cap, rfl, _, hcell⟩ := reads_at (texts_reads ho) (by simp)
  have hc0 := hcell 0 (by simp)
  rw [show ([exC].map fun c => ba (writeS c)).getD 0 ByteArray.empty = ba (writeS exC) from rfl, ex_write] at hc0
  have HM4 : Hid (Mem w4 d2 [exC] ∧ Below w.heap.size w w4) := Lib.hid ⟨HB3.out.1.below hb4, HB3.out.2.trans (hb4.mono HB3.out.2.size)⟩
  clear hb4 hcell ho
  have hk : (ba [49, 58, 43, 44, 49, 58, 97, 44, 49, 58, 98, 44]) = ⟨#[49, 58, 43, 44, 49, 58, 97, 44, 49, 58, 98, 44]⟩ := rfl
  rw [hk, Nat.add_zero] at hc0
  simp only [exC] at b1
  go_wp2_with fail
  refine (all_any HM4.out.1 (by simp)).mono ?_
  rintro e w5 ⟨vv, bx, rfl, _, _, _, hb5⟩
  have hq := neq_seq w5 bx
  go_wp2_with fail
  go_ret
  exact ⟨rfl, HM4.out.2.trans (hb5.mono HM4.out.2.size)⟩
end Go.Proofs.YtkbeppmjdjddhaaDoor.Batch
