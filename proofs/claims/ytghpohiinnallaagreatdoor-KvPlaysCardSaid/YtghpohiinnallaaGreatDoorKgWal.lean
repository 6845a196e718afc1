/-
  Walks of the log: Append, Need, Room, Format, Open.
-/
import Derived.Test.YtghpohiinnallaaGreatDoorKgLog

/-
  Walks of the program's log, third part: group.
-/
namespace Go.Proofs.YtghpohiinnallaaGreatDoor.Wal
open Go Go.RowKit
open Go.Proofs.YtghpohiinnallaaGreatDoor.Disk
open Go.Proofs.YtghpohiinnallaaGreatDoor.Nets (Reads Tab Small bl ba)
open Go.Proofs.YtghpohiinnallaaGreatDoor.Sha (Kept wp_region_kept wp_region_kept_tail wp_region_drawn_tail)

theorem bl_inj {x y : ByteArray} (h : bl x = bl y) : x = y := ByteArray.ext (Array.ext' h)
theorem bl_len (x : ByteArray) : (bl x).length = x.size := by simp
theorem bl_bytesB (n : Nat) : bl (Crc.bytesB n) = Crc.bytesS n := rfl
theorem bl_extract (s : ByteArray) (a b : Nat) : bl (s.extract a b) = ((bl s).drop a).take (b - a) := Lib.extract_data s a b
/-- There is no frame. -/
theorem group_no (s : ByteArray) (r : List UInt8) (w : World) (hs : s.size ≤ 100000) (h : bl s = 0 :: r) :
    Calls Tryz.prog 123 #[.string s] w fun e w' => e = .returned (.tuple #[.slice none 0 0, .int .i64 0, .bool false]) ∧ w' = w := by
  have h1 : 1 ≤ s.size := by rw [← bl_len, h]; simp
  have hne : ((s.extract 0 1).toList == [1]) = false := by
    rw [Lib.toList_data]
    show (bl (s.extract 0 1) == [1]) = false
    rw [bl_extract, h]
    rfl
  clear h
  go_enter Tryz.func123, Tryz.ntmps123
  by_cases h9 : s.size < 9
  · go_wp2_with fail
    go_ret3
    exact ⟨rfl, rfl⟩
  · go_wp2_with fail
    go_ret3
    exact ⟨rfl, rfl⟩
/-- What a frame has where. -/
theorem frame_parts {s : ByteArray} {g : List ByteArray} {r : List UInt8} (h : bl s = frameS 1 g ++ r) : bl (s.extract 0 1) = [1] ∧ s.extract 1 5 = Crc.bytesB (payS g).length ∧ s.extract 5 9 = Crc.bytesB (Crc.sumS (payS g)) ∧ bl (s.extract 9 (9 + (payS g).length)) = payS g ∧ s.size = 9 + (payS g).length + r.length := by
  have e : bl s = [1] ++ (Crc.bytesS (payS g).length ++ (Crc.bytesS (Crc.sumS (payS g)) ++ (payS g ++ r))) := by
    rw [h]
    unfold frameS
    simp
  have l1 := Crc.bytes_len (payS g).length
  have l2 := Crc.bytes_len (Crc.sumS (payS g))
  refine ⟨?_, bl_inj ?_, bl_inj ?_, ?_, ?_⟩
  · rw [bl_extract, e]; rfl
  · rw [bl_extract, e, List.drop_append_of_le_length (by simp), bl_bytesB]
    rw [show List.drop 1 [(1 : UInt8)] = [] from rfl, List.nil_append, List.take_append_of_le_length (by omega), List.take_of_length_le (by omega)]
  · rw [bl_extract, e, ← List.append_assoc, List.drop_append, bl_bytesB]
    have : ([(1 : UInt8)] ++ Crc.bytesS (payS g).length).length = 5 := by rw [List.length_append, l1]; rfl
    rw [this, List.drop_of_length_le (by omega), List.nil_append, Nat.sub_self, List.drop_zero, List.take_append_of_le_length (by omega), List.take_of_length_le (by omega)]
  · rw [bl_extract, e, ← List.append_assoc, ← List.append_assoc, List.drop_append]
    have : ([(1 : UInt8)] ++ Crc.bytesS (payS g).length ++ Crc.bytesS (Crc.sumS (payS g))).length = 9 := by rw [List.length_append, List.length_append, l1, l2]; rfl
    rw [this, List.drop_of_length_le (by omega), List.nil_append, Nat.sub_self, List.drop_zero, Nat.add_sub_cancel_left, List.take_append_of_le_length (Nat.le_refl _), List.take_of_length_le (Nat.le_refl _)]
  · rw [← bl_len, h, List.length_append, frame_len]
set_option maxRecDepth 100000 in
set_option maxHeartbeats 1000000 in
/-- There is one. -/
theorem group_yes (s : ByteArray) (g : List ByteArray) (r : List UInt8) (w : World) (hs : s.size ≤ 100000) (h : bl s = frameS 1 g ++ r) (hr : 1 ≤ r.length) (hg : ∀ x ∈ g, x.size ≤ 100000) :
    Calls Tryz.prog 123 #[.string s] w fun e w' => ∃ v, e = .returned (.tuple #[v, .int .i64 ((9 + (payS g).length : Nat)), .bool true]) ∧ Reads w' v g ∧ Below w.heap.size w w' := by
  obtain ⟨h1, h2, h3, h4, h5⟩ := frame_parts h
  have hne : ((s.extract 0 1).toList == [1]) = true := by
    rw [Lib.toList_data]
    show (bl (s.extract 0 1) == [1]) = true
    rw [h1]
    rfl
  have hXs : (s.extract 9 (9 + (payS g).length)).size ≤ 100000 := by rw [← bl_len, h4]; omega
  have HT : Hid (∀ W, Calls Tryz.prog 124 #[.string (s.extract 9 (9 + (payS g).length))] W fun e w' => ∃ v, e = .returned (.tuple #[v, .int .i64 0]) ∧ Reads w' v g ∧ Below W.heap.size W w') := by
    intro W
    have ht := Nets.texts_any (s.extract 9 (9 + (payS g).length)) W hXs
    have htx : Nets.textsS (payS g) = (g.map bl, 0) := Nets.texts_row _ (by
      intro y hy
      obtain ⟨x, hx, rfl⟩ := List.mem_map.1 hy
      have := hg x hx
      simp
      omega)
    refine ht.mono fun e w' hp => ?_
    unfold Nets.TextsPost at hp
    rw [h4, htx, Nets.map_ba_bl] at hp
    exact hp
  have HN : Hid (∀ W, Calls Tryz.prog 146 #[.string (s.extract 1 5)] W fun e w' => e = .returned (.tuple #[.int .u32 (payS g).length, .int .i64 0]) ∧ W = w') := by
    intro W
    have := Crc.number_yes (s.extract 1 5) W (by rw [h2]; rfl)
    have e : Crc.numS (Crc.bl (s.extract 1 5)) = (payS g).length := by
      rw [h2]
      exact Crc.num_bytes _ (by omega)
    rw [e] at this
    exact this
  have HS : Hid (∀ W, Calls Tryz.prog 130 #[.string (s.extract 9 (9 + (payS g).length))] W fun e w' => e = .returned (.int .u32 (Crc.sumS (payS g))) ∧ W = w') := by
    intro W
    have := Crc.sum_any _ W hXs
    rw [show Crc.bl (s.extract 9 (9 + (payS g).length)) = payS g from h4] at this
    exact this
  have hq : Crc.sumS (payS g) < 4294967296 := Crc.addS_lt 0 _
  have HB := Lib.hid (fun W => Crc.bytes_any (Crc.sumS (payS g)) W hq)
  have heq : ((Crc.bytesB (Crc.sumS (payS g))).toList == (s.extract 5 9).toList) = true := by rw [h3]; simp
  have hm : (payS g).length ≤ 100000 := by omega
  have hlt : 9 + (payS g).length + 1 ≤ s.size := by omega
  generalize hM : (payS g).length = m at *
  generalize Crc.sumS (payS g) = q at *
  generalize Crc.bytesB q = y at *
  generalize hX : s.extract 9 (9 + m) = X at *
  clear h h1 h2 h3 h4 h5 hr hg hq
  go_enter Tryz.func123, Tryz.ntmps123
  go_wp2_with fail
  refine (HN.out _).mono ?_
  rintro e w' ⟨rfl, rfl⟩
  go_wp2_with fail
  refine wp_region_kept (by kernel_rfl) (by kernel_rfl) ?_
  repeat (go_big_quiet_step ((first | (exact fun _ => rfl) | (intro hk; go_at_call 130; exact hk.call_same (HS.out _)) | (intro hk; go_at_call 129; exact hk.call (HB.out _)))))
  refine wpQuiet_nil ?_
  intro w1 hk1
  have HB1 := Lib.hid hk1.below
  clear hk1
  go_wp2_with fail
  refine (HT.out _).mono ?_
  rintro e w2 ⟨v, rfl, hv, hb2⟩
  have HB2 := Lib.hid (And.intro hv (HB1.out.trans (hb2.mono HB1.out.size)))
  clear hv hb2
  go_wp2_with fail
  go_ret3
  exact ⟨v, rfl, HB2.out.1, HB2.out.2⟩
end Go.Proofs.YtghpohiinnallaaGreatDoor.Wal

/-
  Walks of the program's log, fifth part: pass.
-/
namespace Go.Proofs.YtghpohiinnallaaGreatDoor.Wal
open Go Go.RowKit
open Go.Proofs.YtghpohiinnallaaGreatDoor.Disk
open Go.Proofs.YtghpohiinnallaaGreatDoor.Nets (Reads Tab Small bl ba)
open Go.Proofs.YtghpohiinnallaaGreatDoor.Sha (Kept wp_region_kept wp_region_kept_tail wp_region_drawn_tail)

/-- Where the frames of a log end, as it stands in memory. -/
def posOf (w : World) (p : Nat) : Nat := match w.cell? ⟨p, 2, none⟩ with | some (.int _ z) => z.toNat | _ => 0
theorem frames_take {gs : List Grp} {j : Nat} {g : Grp} (h : gs[j]? = some g) : framesS (gs.take (j + 1)) = framesS (gs.take j) ++ frameS 1 g ∧ framesS gs = framesS (gs.take j) ++ (frameS 1 g ++ framesS (gs.drop (j + 1))) ∧ (gs.take (j + 1)).flatten = (gs.take j).flatten ++ g := by
  obtain ⟨hj, rfl⟩ := List.getElem?_eq_some_iff.1 h
  have e1 : gs.take (j + 1) = gs.take j ++ [gs[j]] := List.take_succ_eq_append_getElem hj
  refine ⟨by rw [e1, frames_snoc], ?_, by rw [e1, List.flatten_append, List.flatten_singleton]⟩
  conv => lhs; rw [← List.take_append_drop j gs, List.drop_eq_getElem_cons hj]
  unfold framesS
  rw [List.flatMap_append, List.flatMap_cons]
theorem row_ge (ls : List (List UInt8)) : ls.length * 3 ≤ (Nets.rowS ls).length ∧ ∀ l ∈ ls, l.length ≤ (Nets.rowS ls).length := by
  induction ls with
  | nil => simp [Nets.rowS]
  | cons l ls ih =>
    have e : Nets.rowS (l :: ls) = Nets.putS l ++ Nets.rowS ls := by simp [Nets.rowS]
    have h1 : 1 ≤ (Lib.decDigits l.length).length := List.length_pos_iff.2 (Nets.dec_ne _)
    have h2 : (Nets.putS l).length = (Lib.decDigits l.length).length + (l.length + 1 + 1) := by unfold Nets.putS; simp
    rw [e, List.length_append, List.length_cons]
    refine ⟨by have := ih.1; omega, fun x hx => ?_⟩
    rcases List.mem_cons.1 hx with rfl | hx
    · omega
    · have := ih.2 x hx; omega
theorem pay_ge (g : Grp) : g.length * 3 ≤ (payS g).length ∧ ∀ x ∈ g, x.size ≤ (payS g).length := by
  have h := row_ge (g.map bl)
  rw [List.length_map] at h
  refine ⟨h.1, fun x hx => ?_⟩
  have := h.2 (bl x) (List.mem_map.2 ⟨x, hx, rfl⟩)
  rw [bl_len] at this
  exact this
theorem frames_ge : ∀ gs : List Grp, gs.flatten.length * 3 ≤ (framesS gs).length ∧ ∀ x ∈ gs.flatten, x.size ≤ (framesS gs).length
  | [] => ⟨by simp, by simp⟩
  | g :: gs => by
    have h := frames_ge gs
    have h1 := pay_ge g
    have h2 := frame_len 1 g
    rw [frames_cons, List.length_append, List.flatten_cons, List.length_append]
    refine ⟨by omega, fun x hx => ?_⟩
    rcases List.mem_append.1 hx with hx | hx
    · have := h1.2 x hx
      omega
    · have := h.2 x hx
      omega
structure PassAt (w : World) (k : Wk) (S : St) (L : Wl) (gs : List Grp) (j : Nat) (v : Value) (wr : World) : Prop where
  le : j ≤ gs.length
  log : Log wr k S { L with at_ := (framesS (gs.take j)).length }
  fr : Fr (fun b => b = k.pw) w wr
  own : wr.ownsRow w.heap.size strT 1 v (gs.take j).flatten.length ((gs.take j).flatten.map Value.string)
section
variable {w : World} {k : Wk} {S : St} {L : Wl}
set_option maxRecDepth 100000 in
set_option maxHeartbeats 600000 in
theorem passW (h : Log w k S L) (ha : L.at_ = 0) (C : ByteArray) (gs : List Grp) (r : List UInt8) (hs : C.size ≤ 100000) (hC : bl C = framesS gs ++ 0 :: r) :
    Calls Tryz.prog 85 #[ptr k.pw, .string C] w fun e w' => ∃ v, e = .returned v ∧ w'.ownsRow w.heap.size strT 1 v gs.flatten.length (gs.flatten.map Value.string) ∧ Log w' k S { L with at_ := (framesS gs).length } ∧ Fr (fun b => b = k.pw) w w' := by
  have hCl : C.size = (framesS gs).length + 1 + r.length := by rw [← bl_len, hC, List.length_append, List.length_cons]; omega
  have hge := frames_ge gs
  have HSTART : Hid (PassAt w k S L gs 0 (.slice none 0 0) w) := ⟨Nat.zero_le _, by
    have : { L with at_ := (framesS (gs.take 0)).length } = L := by
      rw [List.take_zero]
      show { L with at_ := 0 } = L
      rw [← ha]
    rw [this]; exact h, Fr.refl _ _, World.ownsRow_nil _ _ _ _⟩
  have HOWN : Hid (∀ b, w.heap.size ≤ b → ¬ ownW k b) := Lib.hid fun b hb e => by have := (h.own_lt e).1; omega
  clear h ha
  go_enter Tryz.func85, Tryz.ntmps85
  go_wp2_with fail
  go_loopw [5, 6, 7, 8] (fun v _ _ _ wr => ∃ j, PassAt w k S L gs j v wr) (fun _ _ _ _ wr => C.size - posOf wr k.pw)
  case atStart => exact ⟨0, HSTART.out⟩
  case round =>
    obtain ⟨j, hP⟩ := hrel
    have hle := hP.le
    obtain ⟨c0, c1, c2, c3⟩ := hP.log.cells
    have f2 := hP.log.free 2
    have HP := Lib.hid hP
    have hat : (framesS (gs.take j)).length ≤ C.size := by
      have : (framesS gs).length = (framesS (gs.take j)).length + (framesS (gs.drop j)).length := by
        rw [← List.length_append]; unfold framesS; rw [← List.flatMap_append, List.take_append_drop]
      omega
    have hpos : Hid (posOf wr k.pw = (framesS (gs.take j)).length) := by
      show posOf wr k.pw = _
      unfold posOf
      rw [c2]
      simp
    have hxs : (C.extract (framesS (gs.take j)).length C.size).size ≤ 100000 := by rw [ByteArray.size_extract]; omega
    have hX : bl (C.extract (framesS (gs.take j)).length C.size) = (bl C).drop (framesS (gs.take j)).length := by
      rw [bl_extract, List.take_of_length_le (by rw [List.length_drop, bl_len]; omega)]
    by_cases hj : j < gs.length
    · have hg : gs[j]? = some gs[j] := List.getElem?_eq_getElem hj
      obtain ⟨t1, t2, t3⟩ := frames_take hg
      generalize gs[j] = g at *
      rw [hC, t2, List.append_assoc, List.drop_left, List.append_assoc] at hX
      have hgl : (framesS gs).length = (framesS (gs.take j)).length + (frameS 1 g).length + (framesS (gs.drop (j + 1))).length := by rw [t2, List.length_append, List.length_append]; omega
      have hfl := frame_len 1 g
      have hpg := pay_ge g
      have HG := Lib.hid (fun W => group_yes _ g _ W hxs hX (by simp; omega) (fun x hx => by have := hpg.2 x hx; omega))
      have hlen : (gs.take j).flatten.length ≤ 1000000 := by
        have h1 := (frames_ge (gs.take j)).1
        omega
      have hgn : g.length ≤ 1000000 := by omega
      have hA : (framesS (gs.take j)).length ≤ 100000 := by omega
      have HT : Hid (framesS (gs.take (j + 1)) = framesS (gs.take j) ++ frameS 1 g ∧ (gs.take (j + 1)).flatten = (gs.take j).flatten ++ g ∧ (framesS (gs.take (j + 1))).length = (framesS (gs.take j)).length + (9 + (payS g).length) ∧ (framesS (gs.take j)).length + (9 + (payS g).length) < C.size) := by
        refine ⟨t1, t3, ?_, ?_⟩
        · rw [t1, List.length_append, frame_len]
        · omega
      have hm : (payS g).length ≤ 100000 := by omega
      clear hP hX t1 t2 t3 hpg hge hgl hfl hCl
      generalize hAA : (framesS (gs.take j)).length = A at *
      go_wp2_with fail
      refine (HG.out _).mono ?_
      rintro e w1 ⟨v1, rfl, hv1, hb1⟩
      have hL1 := HP.out.log.below hb1
      have hB : w.heap.size ≤ w1.heap.size := Nat.le_trans HP.out.fr.size hb1.size
      have hO1 := Nets.owns_below HP.out.own hb1
      obtain ⟨v', w2, hr2, ho2, hg2, hn2⟩ := append_texts w1 w.heap.size _ v1 (gs.take j).flatten g hO1 hv1 hlen hgn hB
      have HR := Lib.hid hr2
      have hF2 : Fr (fun b => w.heap.size ≤ b) w1 w2 := (Fr.refl _ w1).grown hg2 fun b hb _ => (hO1.lt b hb).1
      have hL2 := hL1.frame hF2 HOWN.out
      obtain ⟨d0, d1, d2, d3⟩ := hL2.cells
      have e2 := hL2.free 2
      rw [hAA] at hL2 d2
      have hcast : ((A + (9 + (payS g).length) : Nat) : Int) = (A : Int) + (9 + ((payS g).length : Int)) := by omega
      have HL := Lib.hid (hL2.setAt (A + (9 + (payS g).length)))
      rw [hcast] at HL
      have HCA := Lib.hid hcast
      have HO := Lib.hid (And.intro ho2 (And.intro hF2 hb1))
      clear hcast hL1 hL2 hr2 ho2 hg2 hn2 hF2 hO1 hv1 hb1 c0 c1 c2 c3 f2
      go_wp2_with (at_builtin; refine wpList_append_run rfl _ _ 28 rfl _ _ _ rfl rfl HR.out ?_)
      go_roundw
      case rel =>
        refine ⟨j + 1, by omega, ?_, ?_, ?_⟩
        · rw [HT.out.2.2.1]
          exact HL.out.1
        · exact ((HP.out.fr.trans (Fr.of_below HO.out.2.2 : Fr (fun b => b = k.pw) wr w1) fun _ _ e => e).trans HO.out.2.1 fun b hb e => absurd hb (by omega)).trans (Fr.one w2 k.pw 2 _) fun _ _ e => e
        · rw [HT.out.2.1]
          exact Fr.owns HO.out.1 (Fr.one w2 k.pw 2 _) fun b hb e => by
            have := (HO.out.1.lt b hb).1
            exact HOWN.out b this (.inr (.inl e))
      case measure =>
        have h1 := hpos.out
        have h2 := HT.out.2.2.2
        have h3 : posOf (w2.setCell { block := k.pw, off := 2 } (Value.int IntKind.i64 ((A : Int) + (9 + ((payS g).length : Int))))) k.pw = A + (9 + (payS g).length) := by
          have h4 := HL.out.1.cells.2.2.1
          unfold posOf
          rw [h4]
          show ((A : Int) + (9 + ((payS g).length : Int))).toNat = _
          omega
        rw [h3, h1]
        omega
    · obtain rfl : j = gs.length := by omega
      rw [List.take_length] at hX hat hpos hxs c2
      rw [hC, List.drop_left] at hX
      have HG := Lib.hid (fun W => group_no _ r W hxs hX)
      have HA := Lib.hid (And.intro hX hCl)
      have hA : (framesS gs).length ≤ 100000 := by omega
      clear hP hX hge hCl
      generalize hAA : (framesS gs).length = A at *
      go_wp2_with fail
      refine (HG.out _).mono ?_
      rintro e w1 ⟨rfl, rfl⟩
      go_wp2_with fail
      go_ret
      have hO := HP.out.own
      have hL := HP.out.log
      rw [List.take_length] at hO hL
      rw [hAA] at hL
      exact ⟨_, rfl, hO, by rw [hAA]; exact hL, HP.out.fr⟩
end
end Go.Proofs.YtghpohiinnallaaGreatDoor.Wal

/-
  Walks of the program's log, fourth part: read, pass.
-/
namespace Go.Proofs.YtghpohiinnallaaGreatDoor.Wal
open Go Go.RowKit
open Go.Proofs.YtghpohiinnallaaGreatDoor.Disk
open Go.Proofs.YtghpohiinnallaaGreatDoor.Nets (Reads Tab Small bl ba)
open Go.Proofs.YtghpohiinnallaaGreatDoor.Sha (Kept wp_region_kept wp_region_kept_tail wp_region_drawn_tail)

/-- The bytes of so many sectors. -/
def catL (L : List ByteArray) (f : Nat) : Nat → List UInt8
  | 0 => []
  | m + 1 => catL L f m ++ bl (at0 L (f + m))
theorem catL_length {L : List ByteArray} {f z : Nat} : ∀ {m : Nat}, (∀ i, i < m → (at0 L (f + i)).size = z) → (catL L f m).length = m * z
  | 0, _ => by rw [Nat.zero_mul]; rfl
  | m + 1, h => by
    rw [catL, List.length_append, catL_length (fun i hi => h i (by omega)), bl_len, h m (by omega), Nat.succ_mul]
theorem catL_get {L : List ByteArray} {f z : Nat} : ∀ {m p : Nat}, (∀ i, i < m → (at0 L (f + i)).size = z) → p < m * z → (catL L f m)[p]? = ab z L (f * z + p)
  | 0, p, _, hp => by rw [Nat.zero_mul] at hp; omega
  | m + 1, p, h, hp => by
    have hl : (catL L f m).length = m * z := catL_length fun i hi => h i (by omega)
    rw [Nat.succ_mul] at hp
    rw [catL]
    by_cases e : p < m * z
    · rw [List.getElem?_append_left (by omega), catL_get (fun i hi => h i (by omega)) e]
    · rw [List.getElem?_append_right (by omega), hl]
      obtain ⟨q, rfl⟩ : ∃ q, p = m * z + q := ⟨p - m * z, by omega⟩
      rw [Nat.add_sub_cancel_left, ← Nat.add_assoc, ← Nat.add_mul, ab_at L (by omega)]
      rfl
def ReadAt (C : List ByteArray) (f m : Nat) (w : World) (i : Value) (wr : World) : Prop :=
  ∃ k : Nat, k ≤ m ∧ i = .int .i64 k ∧ Lib.IsBuilder 183 5 w.heap.size w.heap.size (Lib.byteCells (catL C f k)) wr ∧ Below w.heap.size w wr
section
variable {w : World} {k : Wk} {S : St} {L : Wl}
set_option maxRecDepth 100000 in
set_option maxHeartbeats 2000000 in
theorem readW (h : Log w k S L) (ho : S.off = false) (hh : L.half ≤ 1) (hz : S.z ≤ 64) (hn : S.dur.length ≤ 40) (h1 : 1 ≤ S.dur.length) :
    Calls Tryz.prog 84 #[ptr k.pw] w fun e w' => ∃ C, e = .returned (.tuple #[.string C, .int .i64 0]) ∧ bl C = catL (con S) (1 + L.half * sec S.dur.length) (sec S.dur.length) ∧ Below w.heap.size w w' := by
  obtain ⟨c0, c1, c2, c3⟩ := h.cells
  have HLT := Lib.hid h.self.lt
  have hfr := Nets.fresh w
  have hal : Below w.heap.size w (w.alloc (.cells #[.pointer none, .slice none 0 0] 183)) := (Below.refl _ _).alloc (Nat.le_refl _) _
  have HS := Lib.hid (sectorsW (h.below hal))
  have HF := Lib.hid (fun W (hb : Below w.heap.size w W) => firstW (h.below hb) L.half hh)
  have hin : ∀ i, i < sec S.dur.length → 1 + L.half * sec S.dur.length + i < S.dur.length := fun i hi => by
    have : 1 + 2 * sec S.dur.length ≤ S.dur.length := by unfold sec; omega
    rcases (show L.half = 0 ∨ L.half = 1 by omega) with e | e
    · rw [e]; omega
    · rw [e]; omega
  have HR : Hid (∀ W (i : Nat), Below w.heap.size w W → i < sec S.dur.length → Calls Tryz.prog 83 #[ptr k.d.pb, .int .i64 ((1 + L.half * sec S.dur.length + i : Nat))] W fun e w' => e = .returned (.tuple #[.string (at0 (con S) (1 + L.half * sec S.dur.length + i)), .int .i64 0]) ∧ w' = W) := by
    intro W i hb hi
    have hlt := hin i hi
    have := readIs_any (h.below hb).disk ((1 + L.half * sec S.dur.length + i : Nat) : Int)
    have e : readS S ((1 + L.half * sec S.dur.length + i : Nat) : Int) = (at0 (con S) (1 + L.half * sec S.dur.length + i), 0) := by
      unfold readS
      rw [if_neg (by omega), if_neg (by rw [ho]; simp), Int.toNat_natCast]
    rw [e] at this
    exact this.mono fun e w' hw => ⟨hw.1, hw.2.symm⟩
  have hsz : ∀ i, i < sec S.dur.length → (at0 (con S) (1 + L.half * sec S.dur.length + i)).size = S.z := fun i hi => h.ok.con.at (hin i hi)
  have HC := Lib.hid (fun m (hm : m ≤ sec S.dur.length) => catL_length (L := con S) (f := 1 + L.half * sec S.dur.length) (m := m) fun i hi => hsz i (by omega))
  have HZ := Lib.hid hsz
  have hq : sec S.dur.length ≤ 20 := by unfold sec; omega
  have HM := Lib.hid (fun m (hm : m ≤ sec S.dur.length) => Nat.mul_le_mul (show m ≤ 20 by omega) hz)
  have hf : 1 + L.half * sec S.dur.length ≤ 100 := by
    rcases (show L.half = 0 ∨ L.half = 1 by omega) with e | e
    · rw [e]; omega
    · rw [e]; omega
  have HLF := Lib.hid c1
  clear h hin hsz
  generalize 1 + L.half * sec S.dur.length = f at *
  generalize sec S.dur.length = q at *
  go_enter Tryz.func84, Tryz.ntmps84
  go_wp2_with fail
  refine HS.out.mono ?_
  rintro e w' ⟨rfl, rfl⟩
  clear HS
  go_wp2_with fail
  go_loopw [5, 6, 7, 10] (fun _ _ _ i wr => ReadAt (con S) f q w i wr) (fun _ _ _ i _ => q - (intOf i).toNat)
  case atStart => exact ⟨0, Nat.zero_le _, rfl, hfr, hal⟩
  case round =>
    obtain ⟨j, hj, rfl, hB, hb⟩ := hrel
    by_cases hlt : j < q
    · have HBB := Lib.hid hb
      have d0 : wr.cell? ⟨k.pw, 0, none⟩ = some (ptr k.d.pb) := by rw [hb.cell (p := ⟨k.pw, 0, none⟩) HLT.out]; exact c0
      have d1 : wr.cell? ⟨k.pw, 1, none⟩ = some (.int .i64 L.half) := by rw [hb.cell (p := ⟨k.pw, 1, none⟩) HLT.out]; exact c1
      go_wp2_with fail
      go_quiet (first | (go_at_call 80; exact Calls.quiet_of_same (HF.out _ (below_drewN HBB.out _))) | (go_at_call 83; exact Calls.quiet_of_same (HR.out _ j (below_drewN HBB.out _) hlt)))
      go_wp2_with fail
      have HBD := Lib.hid (below_drewN HBB.out nq)
      have HIB := Nets.is_below hB (below_drewN (Below.refl wr.heap.size wr) nq)
      have HX := Lib.hid (HZ.out j hlt)
      have HCL := Lib.hid (HC.out j hj)
      have HML := Lib.hid (HM.out j hj)
      have HE : Hid (catL (con S) f (j + 1) = catL (con S) f j ++ bl (at0 (con S) (f + j))) := rfl
      generalize at0 (con S) (f + j) = x at *
      generalize wr.drewN nq = w1 at *
      refine (Nets.bwrite_any _ _ _ x _ HIB ?c1 HBD.out.size).mono ?_
      case c1 =>
        have := HX.out
        have := HCL.out
        have := HML.out
        rw [Nets.bytes_length]
        omega
      rintro e w2 ⟨rfl, hB2, hb2⟩
      go_wp2_with fail
      go_roundw
      case rel =>
        refine ⟨j + 1, by omega, by simp, .inr ?_, HBD.out.trans hb2⟩
        rw [HE.out]
        have e : Lib.byteCells (catL (con S) f j) ++ Lib.strCells x = Lib.byteCells (catL (con S) f j ++ bl x) := by simp [Lib.byteCells, Lib.strCells]
        rw [← e]
        exact hB2
      case measure => simp [intOf]; omega
    · go_wp2_with (go_at_call 117; refine (Tryz.Builder_String_any _ _ _ _ hB hb.size).mono ?_; rintro e w1 ⟨rfl, hb1⟩)
      go_ret2
      obtain rfl : j = q := by omega
      exact ⟨⟨(catL (con S) f j).toArray⟩, rfl, by simp, hb.trans hb1⟩
end
end Go.Proofs.YtghpohiinnallaaGreatDoor.Wal

/-
  Walks of the program's log, sixth part: lay.
-/
namespace Go.Proofs.YtghpohiinnallaaGreatDoor.Wal
open Go Go.RowKit
open Go.Proofs.YtghpohiinnallaaGreatDoor.Disk
open Go.Proofs.YtghpohiinnallaaGreatDoor.Nets (Reads Tab Small bl ba)
open Go.Proofs.YtghpohiinnallaaGreatDoor.Sha (Kept wp_region_kept wp_region_kept_tail wp_region_drawn_tail)

theorem quiet_load_ptr {P : Program} {C : World → Prop} {o : Oper} {a : Act} {K : Act → Prop} (ty e : TypeId) (x : Operand) (ho : o.op = .load ty x) (p : Addr) (hx : a.eval x = .pointer (some p)) (v : Value)
    (hc : ∀ w, C w → w.cell? p = some v) (hu : P.underlying ty = some (.pointer e)) (h : K (a.put o.dst v)) : o.quiet P a C K :=
  ⟨_, fun w hw => by
    have h1 := hc w hw
    unfold Oper.quietAt execOp
    simp [ho, hx, Instr.loadAt, Instr.sureAddr, loadVar, isAgg, run_underlying hu, h1]
    exact ⟨rfl, rfl⟩, h⟩
theorem overlayB (old s : ByteArray) (a : Int) (w : World) (h0 : old.size ≤ 1000) (h1 : s.size ≤ 1000000) (h2 : a < old.size) (h3 : -a ≤ s.size) (hz : 0 < old.size) :
    Calls Tryz.prog 131 #[.string old, .string s, .int .i64 a] w fun e w' => e = .returned (.string (overB old s a)) ∧ Below w.heap.size w w' := by
  refine (overlayW old s a w h0 h1 h2 h3 hz).mono fun e w' hh => ?_
  obtain ⟨X, rfl, ho, hb⟩ := hh
  rw [ho.eq]
  exact ⟨rfl, hb⟩
/-- A text is being laid, as it stands in memory. -/
structure LayAt (w : World) (k : Wk) (S : St) (L : Wl) (A : Nat) (s : ByteArray) (at_ E f i0 i : Nat) (S1 : St) (k' : Wk) (wr : World) : Prop where
  lo : i0 ≤ i
  mid : Mid S A (bl s) S1 (f + i)
  log : Log wr k' S1 L
  step : StepW w k wr k'
  full : i0 < i → S.full = false
  few : i * S.z < E + S.z
  up : at_ < i * S.z + S.z
section
variable {w : World} {k : Wk} {S : St} {L : Wl}
set_option maxRecDepth 100000 in
set_option maxHeartbeats 4000000 in
theorem layW (h : Log w k S L) (c : Clean S) (hz2 : S.z ≤ 64) (hn1 : 8 ≤ S.dur.length) (hn2 : S.dur.length ≤ 40) (hf : Nat) (hh : hf ≤ 1) (at_ : Nat) (s : ByteArray) (hs : 1 ≤ s.size) (hfit : at_ + s.size ≤ sec S.dur.length * S.z) (hops : S.ops + 50 < 1000000) :
    Calls Tryz.prog 103 #[ptr k.pw, .int .i64 hf, .int .i64 at_, .string s] w fun e w' => ∃ S' x, e = .returned (.int .i64 x) ∧ Laid S (base S.z S.dur.length hf + at_) (bl s) S' x ∧ Kin S S' 42 ∧ Done w k S' L w' := by
  have ok := h.ok
  have hz1 := ok.low
  have hz0 : 0 < S.z := by omega
  have hsec : sec S.dur.length ≤ 19 := by unfold sec; omega
  have hszb : sec S.dur.length * S.z ≤ 19 * 64 := Nat.mul_le_mul hsec hz2
  have hf40 : 1 + hf * sec S.dur.length + sec S.dur.length ≤ S.dur.length := by
    have : 1 + 2 * sec S.dur.length ≤ S.dur.length := by unfold sec; omega
    rcases (show hf = 0 ∨ hf = 1 by omega) with e | e
    · rw [e]; omega
    · rw [e]; omega
  have HA : Hid (base S.z S.dur.length hf + at_ = (1 + hf * sec S.dur.length) * S.z + at_) := by
    show base S.z S.dur.length hf + at_ = _
    rw [first_base]
  have HF := Lib.hid (fun W k' S' (hl : Log W k' S' L) (e : S'.dur.length = S.dur.length) => (by have := firstW hl hf hh; rw [e] at this; exact this : Calls Tryz.prog 80 #[ptr k'.pw, .int .i64 hf] W fun e w' => e = .returned (.int .i64 ((1 + hf * sec S.dur.length : Nat))) ∧ w' = W))
  have HZ := Lib.hid (sizeIs h.disk)
  obtain ⟨c0, c1, c2, c3⟩ := h.cells
  have hi0 : (at_ : Int).tdiv (S.z : Int) = ((at_ / S.z : Nat) : Int) := by rw [Int.tdiv_eq_ediv_of_nonneg (by omega)]; exact (Int.natCast_ediv at_ S.z).symm
  have hi1 : at_ / S.z * S.z ≤ at_ := Nat.div_mul_le_self _ _
  have hi2 : at_ / S.z ≤ at_ := Nat.div_le_self _ _
  have hi3 : at_ < at_ / S.z * S.z + S.z := Nat.lt_div_mul_add hz0
  generalize 1 + hf * sec S.dur.length = f at *
  have HST : Hid (LayAt w k S L (base S.z S.dur.length hf + at_) s at_ (at_ + s.size) f (at_ / S.z) (at_ / S.z) S k w) := ⟨Nat.le_refl _, Mid.start c (bl s) (by
    have := HA.out
    rw [Nat.add_mul]
    omega), h, StepW.refl _ _, fun e => by omega, by omega, hi3⟩
  have hbl : (bl s).length = s.size := by simp
  generalize hAA : base S.z S.dur.length hf + at_ = A at *
  generalize at_ / S.z = i0 at *
  have HC := Lib.hid c
  have HI0 := Lib.hid (And.intro hi1 hfit)
  generalize hT : sec S.dur.length * S.z = T at *
  generalize hzz : S.z = z at *
  clear h c hAA
  go_enter Tryz.func103, Tryz.ntmps103
  go_wp2_with fail
  refine HZ.out.mono ?_
  rintro e w' ⟨rfl, rfl⟩
  go_wp2_with fail
  go_loopw [10, 11, 12, 13] (fun iv _ _ _ wr => ∃ (i : Nat) (S1 : St) (k' : Wk), iv = .int .i64 i ∧ LayAt w' k S L A s at_ (at_ + s.size) f i0 i S1 k' wr) (fun iv _ _ _ _ => at_ + s.size + 1 - (intOf iv).toNat)
  case atStart => exact ⟨i0, S, k, rfl, HST.out⟩
  case round =>
    obtain ⟨i, S1, k', rfl, hL⟩ := hrel
    have few := hL.few
    have hup := hL.up
    rw [hzz] at few hup
    have him : i ≤ i * z := Nat.le_mul_of_pos_right i hz0
    have HPM : Hid (i * z = i * z) := rfl
    have hin : i * z < at_ + s.size → i < sec S.dur.length := fun h => Nat.lt_of_mul_lt_mul_right (a := z) (by omega)
    have hi9 : i < sec S.dur.length + 1 := Nat.lt_of_mul_lt_mul_right (a := z) (by rw [Nat.add_mul, Nat.one_mul]; omega)
    have hm : (i : Int) * (z : Int) = ((i * z : Nat) : Int) := by rw [Int.natCast_mul]
    have HM0 : Hid (A = f * z + at_ → (A : Int) = ((f + i) * z : Nat) + ((at_ : Int) - (i * z : Nat))) := Lib.hid fun e => by
      rw [e, Nat.add_mul]
      omega
    have HM1 : Hid (i * z + z = (i + 1) * z) := Lib.hid (by rw [Nat.add_mul, Nat.one_mul])
    have HM2 : Hid (A = f * z + at_ → at_ + s.size ≤ i * z → A + (bl s).length ≤ (f + i) * z) := Lib.hid fun e e2 => by
      rw [e, hbl, Nat.add_mul]
      omega
    generalize i * z = m at *
    obtain ⟨c0, c1, c2, c3⟩ := hL.log.cells
    have HL := Lib.hid hL
    clear hL HPM
    by_cases hlt : m < at_ + s.size
    · have hi := hin hlt
      clear hin
      have hlen : S1.dur.length = S.dur.length := by rw [HL.out.mid.dur]
      have hfi : f + i < S.dur.length := by omega
      have HA2 := HA.out
      have hFF := HF.out wr k' S1 HL.out.log hlen
      rw [HL.out.step.pw] at hFF c0 c1 c2 c3
      have HFF := Lib.hid hFF
      have HSZ : Hid ((at0 (con S1) (f + i)).size = z) := by
        have h1 := HL.out.log.ok.con.at (i := f + i) (by omega)
        rw [HL.out.mid.z, hzz] at h1
        exact h1
      have hRR := readIs_any HL.out.log.disk ((f + i : Nat) : Int)
      have hre : readS S1 ((f + i : Nat) : Int) = (at0 (con S1) (f + i), 0) := by
        unfold readS
        rw [if_neg (by omega), if_neg (by rw [HL.out.mid.off]; simp), Int.toNat_natCast]
      rw [hre] at hRR
      have HRR := Lib.hid hRR
      have hpt := HL.out.mid.put ok hfi (a := (at_ : Int) - (m : Int)) (by rw [hzz]; exact HM0.out HA2) (by rw [hzz]; exact HSZ.out)
      have HOV := Lib.hid (fun W => overlayB (at0 (con S1) (f + i)) s ((at_ : Int) - (m : Int)) W (by have := HSZ.out; omega) (by omega) (by have := HSZ.out; omega) (by omega) (by have := HSZ.out; omega))
      have HWR := Lib.hid (fun W (hb : Below wr.heap.size wr W) => write_any (HL.out.log.below hb).disk ((f + i : Nat) : Int) (overB (at0 (con S1) (f + i)) s ((at_ : Int) - (m : Int))) (by have := HL.out.mid.ops; omega))
      have HLT := Lib.hid HL.out.log.self.lt
      rw [HL.out.step.pw] at HLT
      have hcs : ((f + i : Nat) : Int) = (f : Int) + (i : Int) := by omega
      rw [hcs] at HRR HWR hpt
      have HPT := Lib.hid hpt
      clear hFF hRR hre hpt hcs
      generalize at0 (con S1) (f + i) = old at *
      generalize hXX : overB old s ((at_ : Int) - (m : Int)) = X at *
      go_wp2_with fail
      refine HFF.out.mono ?_
      rintro e w2 ⟨rfl, rfl⟩
      go_wp2_with fail
      refine HRR.out.mono ?_
      rintro e w2 ⟨rfl, rfl⟩
      go_wp2_with fail
      refine wp_region_kept_tail 13 (by kernel_rfl) (by kernel_rfl) ?_
      simp only [List.take_succ_cons, List.take_zero, List.drop_succ_cons, List.drop_zero]
      repeat (go_big_quiet_step (exact fun _ => rfl))
      go_big_quiet_want
      refine quiet_load_ptr 27 98 (.tmp 51) rfl ⟨k.pw, 0, none⟩ rfl (ptr k'.d.pb) (fun w' hk => by rw [hk.cell (p := ⟨k.pw, 0, none⟩) HLT.out]; exact c0) Tryz.underlying27 ?_
      go_simp
      go_big_quiet_on
      repeat (go_big_quiet_step ((first | (exact fun _ => rfl) | (intro hk; go_at_call 131; exact hk.call (HOV.out _)))))
      refine wpQuiet_nil ?_
      intro w3 hk3
      have HB3 := Lib.hid hk3.below
      clear hk3
      go_wp2_with fail
      refine (HWR.out _ HB3.out).mono ?_
      rintro e w4 ⟨rfl, hlf⟩
      have hL3 := HL.out.log.below HB3.out
      obtain ⟨cv', hLog, hStep⟩ := hL3.left hlf
      have hst := HL.out.step.trans ((StepW.of_below k' HB3.out).trans hStep)
      rcases HPT.out with ⟨S2, hp, hfull, hmid⟩ | ⟨S2, c, hp, hne, hlaid, hkin⟩
      · rw [hp] at hLog hlf ⊢
        have HZZ := Lib.hid (And.intro hLog (And.intro hst (And.intro hfull hmid)))
        clear hp hlf hL3 hLog hStep hst hfull hmid
        go_wp2_with fail
        go_roundw
        case rel =>
          refine ⟨i + 1, S2, _, by simp, by have := HL.out.lo; omega, HZZ.out.2.2.2, HZZ.out.1, HZZ.out.2.1, fun _ => HZZ.out.2.2.1, ?_, ?_⟩
          · rw [hzz, ← HM1.out]; omega
          · rw [hzz, ← HM1.out]; omega
        case measure => simp [intOf]; omega
      · rw [hp] at hLog hlf ⊢
        have hc0 : (c != 0) = true := by simpa using hne
        have HZZ : Hid (Laid S A (bl s) S2 c ∧ Kin S S2 42 ∧ Done w' k S2 L w4) := Lib.hid ⟨hlaid, hkin.mono (by omega), _, hLog, hst⟩
        clear hp hlf hL3 hLog hStep hst hlaid hkin hne
        go_wp2_with fail
        go_ret
        exact ⟨S2, c, rfl, HZZ.out⟩
    · have hpos : i0 < i := by
        have := HL.out.lo
        rcases (show i0 < i ∨ i0 = i by omega) with e | e
        · exact e
        · exfalso
          have h1 := HI0.out.1
          rw [e] at h1
          have h2 := HM1.out
          rw [Nat.add_mul, Nat.one_mul] at h2
          omega
      have hfl := HL.out.mid.flush ok (by rw [hzz]; exact HM2.out HA.out (by omega)) (HL.out.full hpos)
      have HFL := Lib.hid (flush_any HL.out.log.disk (by have := HL.out.mid.ops; omega))
      obtain ⟨S2, c, hp, hlaid, hkin⟩ := hfl
      rw [hp] at HFL
      have HZZ := Lib.hid (And.intro hlaid (hkin.mono (show f + i + 1 ≤ 42 by omega)))
      rw [HL.out.step.pw] at c0 c1 c2 c3
      clear hp hlaid hkin
      go_wp2_with fail
      refine HFL.out.mono ?_
      rintro e w4 ⟨rfl, hlf⟩
      obtain ⟨cv', hLog, hStep⟩ := HL.out.log.left hlf
      have HQ := Lib.hid (And.intro hLog (HL.out.step.trans hStep))
      clear hlf hLog hStep
      go_wp2_with fail
      go_ret
      exact ⟨S2, c, rfl, HZZ.out.1, HZZ.out.2, _, HQ.out.1, HQ.out.2⟩
end
end Go.Proofs.YtghpohiinnallaaGreatDoor.Wal

/-
  Walks of the program's log, seventh part: choose.
-/
namespace Go.Proofs.YtghpohiinnallaaGreatDoor.Wal
open Go Go.RowKit
open Go.Proofs.YtghpohiinnallaaGreatDoor.Disk
open Go.Proofs.YtghpohiinnallaaGreatDoor.Nets (Reads Tab Small bl ba)
open Go.Proofs.YtghpohiinnallaaGreatDoor.Sha (Kept wp_region_kept wp_region_kept_tail wp_region_drawn_tail)

theorem repeatW (w : World) (z : Nat) (hz : z ≤ 100000) : Calls Tryz.prog 78 #[.string ⟨#[0]⟩, .int .i64 z] w fun e w' => e = .returned (.string (zs z)) ∧ Below w.heap.size w w' := by
  have HR := Tryz.strings_Repeat ⟨#[0]⟩ z w (by omega) (by show 1 * z ≤ _; omega)
  rw [show (⟨(Lib.repeatL (⟨#[0]⟩ : ByteArray).data.toList z).toArray⟩ : ByteArray) = zs z from by unfold zs; rw [← repeat_zero]] at HR
  exact HR
/-- A byte that was laid as a list of one, as a text. -/
theorem conv_one {W : World} {b : Nat} {h : Nat} (hc : W.cell? ⟨b, 0, none⟩ = some (.int .u8 h)) : (convert 181 9 (.slice (some ⟨b, 0, none⟩) 1 1)).run Tryz.prog W = .ok (.string (ba [UInt8.ofNat h])) W := by
  have e := run_convert_bytes_arg (P := Tryz.prog) W 181 5 Tryz.underlying181 Tryz.underlying5 b 0 1 1 [(h : Int)] rfl (fun i hi => by
    obtain rfl : i = 0 := by omega
    exact hc) 9 Tryz.underlying9
  rw [e]
  rfl
section
variable {w : World} {k : Wk} {S : St} {L : Wl}
set_option maxRecDepth 100000 in
set_option maxHeartbeats 3000000 in
theorem chooseW (h : Log w k S L) (c : Clean S) (hz2 : S.z ≤ 64) (hn1 : 8 ≤ S.dur.length) (hf : Nat) (hh : hf ≤ 1) (hops : S.ops + 50 < 1000000) :
    Calls Tryz.prog 104 #[ptr k.pw, .int .i64 hf] w fun e w' => ∃ S' x, e = .returned (.int .i64 x) ∧ Laid S 0 (UInt8.ofNat hf :: List.replicate (S.z - 1) 0) S' x ∧ Kin S S' 42 ∧ Done w k S' L w' := by
  have ok := h.ok
  have hz1 := ok.low
  obtain ⟨c0, c1, c2, c3⟩ := h.cells
  have HH := Lib.hid h
  have HLT := Lib.hid h.self.lt
  have hb0 : Below w.heap.size w w.drew := (Below.refl w.heap.size w).drew
  have hb1 : Below w.heap.size w (w.alloc (.cells #[.int .u8 hf] 5)).drew := ((Below.refl w.heap.size w).alloc (Nat.le_refl _) _).drew
  have HS1 := Lib.hid (sizeIs (h.below hb0).disk)
  have HS2 := Lib.hid (sizeIs (h.below hb1).disk)
  have HB1 := Lib.hid hb1
  have c0a := (h.below hb0).cells.1
  have c0b := (h.below hb1).cells.1
  have hlt := h.self.lt
  have HRP := Lib.hid (fun W => repeatW W (S.z - 1) (by omega))
  have hz3 : IntKind.i64.wrap ((S.z : Int) - 1) = ((S.z - 1 : Nat) : Int) := by rw [show ((S.z : Int) - 1) = ((S.z - 1 : Nat) : Int) by omega]; exact wrap_at (by omega) (by omega)
  have hcb := fun (W : World) => conv_one (W := W.alloc (.cells #[.int .u8 hf] 5)) (b := W.heap.size) (h := hf) ((Lies.new W _ _).cell 0)
  have hcd := fun (W : World) => conv_one (W := (W.alloc (.cells #[.int .u8 hf] 5)).drew) (b := W.heap.size) (h := hf) ((Lies.new W _ _).cell 0)
  have hwr : IntKind.u8.wrap (hf : Int) = hf := by show (hf : Int) % 256 = hf; omega
  have HCV : Hid (∀ w3, Below (w.alloc (.cells #[.int .u8 hf] 5)).drew.heap.size (w.alloc (.cells #[.int .u8 hf] 5)).drew w3 → (convert 181 9 (.slice (some ⟨w.heap.size, 0, none⟩) 1 1)).run Tryz.prog w3 = .ok (.string (ba [UInt8.ofNat hf])) w3) := Lib.hid fun w3 hb => conv_one (by
    rw [hb.cell (p := ⟨w.heap.size, 0, none⟩) (by simp)]
    exact (Lies.new w #[.int .u8 hf] 5).cell 0)
  have HXX : Hid ((UInt8.ofNat hf :: List.replicate (S.z - 1) (0 : UInt8)).length = S.z) := Lib.hid (by rw [List.length_cons, List.length_replicate]; omega)
  have HPT : Hid ((∃ S2, putS S ((0 : Nat) : Int) (ba [UInt8.ofNat hf] ++ zs (S.z - 1)) = (S2, 0) ∧ S.full = false ∧ Mid S 0 (UInt8.ofNat hf :: List.replicate (S.z - 1) 0) S2 (0 + 1)) ∨
      (∃ S2 x, putS S ((0 : Nat) : Int) (ba [UInt8.ofNat hf] ++ zs (S.z - 1)) = (S2, x) ∧ x ≠ 0 ∧ Laid S 0 (UInt8.ofNat hf :: List.replicate (S.z - 1) 0) S2 x ∧ Kin S S2 (0 + 1))) := by
    refine (Mid.start c _ (by omega)).putX ok (by omega) _ (by rw [ByteArray.size_append, zs_size]; show 1 + _ = _; omega) fun k hk => ?_
    rw [new, if_pos (by rw [HXX.out]; omega), Nat.zero_mul, Nat.zero_add, Nat.sub_zero]
    unfold byt
    rw [ByteArray.data_append, Array.toList_append]
    rfl
  have hzs : (zs (S.z - 1)).size = S.z - 1 := zs_size _
  have hba : (ba [UInt8.ofNat hf]).size = 1 := rfl
  generalize zs (S.z - 1) = Z at *
  generalize ba [UInt8.ofNat hf] = Y at *
  clear h
  go_enter Tryz.func104, Tryz.ntmps104
  go_upto_region 1 with (fail)
  go_cut [5] from 5 to 18 (fun x wx => x = .string (Y ++ Z) ∧ Below w.heap.size w wx)
  case first =>
   go_region_with (first | (go_at_call 79; first | ((with_reducible refine HS1.out.mono ?_); rintro e w2 ⟨rfl, rfl⟩) | ((with_reducible refine HS2.out.mono ?_); rintro e w2 ⟨rfl, rfl⟩)) | (go_at_call 78; (with_reducible refine (HRP.out _).mono ?_); rintro e w3 ⟨rfl, hb3⟩; first | (have hcv := HCV.out w3 hb3) | skip))
   all_goals
    go_wp2_with fail
    go_meet
    refine ⟨rfl, ?_⟩
    first
      | exact hb1.trans (hb3.mono hb1.size)
      | exact hb0.trans (hb3.mono hb0.size)
      | exact (hb0.trans (hb3.mono hb0.size)).alloc (hb0.trans (hb3.mono hb0.size)).size _
  case rest =>
   obtain ⟨rfl, hbc⟩ := hcut
   have hLc := HH.out.below hbc
   obtain ⟨d0, d1, d2, d3⟩ := hLc.cells
   have HX := Lib.hid (HXX.out)
   rcases HPT.out with ⟨S2, hp, hfull, hmid⟩ | ⟨S2, x, hp, hne, hlaid, hkin⟩
   · have hw := write_any hLc.disk ((0 : Nat) : Int) (Y ++ Z) (by omega)
     rw [hp] at hw
     have HW := Lib.hid hw
     have HM := Lib.hid (And.intro hLc (And.intro hfull (And.intro hmid hbc)))
     clear hp hw hLc hfull hmid hbc
     go_wp2_with fail
     refine HW.out.mono ?_
     rintro e w4 ⟨rfl, hlf⟩
     obtain ⟨cv', hLog, hStep⟩ := HM.out.1.left hlf
     obtain ⟨e0, e1, e2, e3⟩ := hLog.cells
     have hfl := HM.out.2.2.1.flush ok (by rw [HX.out]; omega) HM.out.2.1
     have HFL := Lib.hid (flush_any hLog.disk (by have := HM.out.2.2.1.ops; omega))
     obtain ⟨S3, x, hp, hlaid, hkin⟩ := hfl
     rw [hp] at HFL
     have HZZ := Lib.hid (And.intro hlaid (And.intro (hkin.mono (show 0 + 1 + 1 ≤ 42 by omega)) (And.intro hLog ((StepW.of_below k HM.out.2.2.2).trans hStep))))
     clear hp hlaid hkin hlf hLog hStep
     go_wp2_with fail
     refine HFL.out.mono ?_
     rintro e w5 ⟨rfl, hlf⟩
     obtain ⟨cv2, hLog, hStep⟩ := HZZ.out.2.2.1.left hlf
     have HQ := Lib.hid (And.intro hLog (HZZ.out.2.2.2.trans hStep))
     clear hlf hLog hStep
     go_wp2_with fail
     go_ret
     exact ⟨S3, x, rfl, HZZ.out.1, HZZ.out.2.1, _, HQ.out.1, HQ.out.2⟩
   · have hw := write_any hLc.disk ((0 : Nat) : Int) (Y ++ Z) (by omega)
     rw [hp] at hw
     have HW := Lib.hid hw
     have hc0 : (x != 0) = true := by simpa using hne
     have HM := Lib.hid (And.intro hLc (And.intro hlaid (And.intro hkin hbc)))
     clear hp hw hLc hlaid hkin hbc hne
     go_wp2_with fail
     refine HW.out.mono ?_
     rintro e w4 ⟨rfl, hlf⟩
     obtain ⟨cv', hLog, hStep⟩ := HM.out.1.left hlf
     have HQ := Lib.hid (And.intro hLog ((StepW.of_below k HM.out.2.2.2).trans hStep))
     clear hlf hLog hStep
     go_wp2_with fail
     go_ret
     exact ⟨S2, x, rfl, HM.out.2.1, HM.out.2.2.1.mono (by omega), _, HQ.out.1, HQ.out.2⟩
end
end Go.Proofs.YtghpohiinnallaaGreatDoor.Wal

/-
  Walks of the program's log, tenth part: Open.
-/
namespace Go.Proofs.YtghpohiinnallaaGreatDoor.Wal
open Go Go.RowKit
open Go.Proofs.YtghpohiinnallaaGreatDoor.Disk
open Go.Proofs.YtghpohiinnallaaGreatDoor.Nets (Reads Tab Small bl ba)
open Go.Proofs.YtghpohiinnallaaGreatDoor.Sha (Kept wp_region_kept wp_region_kept_tail wp_region_drawn_tail)

theorem owns_low {w : World} {B B' : Nat} {e : TypeId} {size : Nat} {v : Value} {n : Nat} {xs : List Value} (h : w.ownsRow B e size v n xs) (hb : B' ≤ B) : w.ownsRow B' e size v n xs :=
  ⟨h.1, h.2.imp_right fun ⟨g, cap, cur, hv, h1, r⟩ => ⟨g, cap, cur, hv, Nat.le_trans hb h1, r⟩⟩
/-- What stands in the current half, from its frames on. -/
theorem half_bytes {z n h : Nat} {L : List ByteArray} {gs : List Grp} (k : Lg z n L h gs) (hz : ∀ i, i < n → (at0 L i).size = z) : ∃ r, catL L (1 + h * sec n) (sec n) = framesS gs ++ 0 :: r := by
  have hin : ∀ i, i < sec n → 1 + h * sec n + i < n := fun i hi => by
    have h1 := k.half
    have h2 := k.n1
    have : 1 + 2 * sec n ≤ n := by unfold sec; omega
    rcases (show h = 0 ∨ h = 1 by omega) with e | e
    · rw [e]; omega
    · rw [e]; omega
  have hlen := catL_length (L := L) (f := 1 + h * sec n) (z := z) (m := sec n) fun i hi => hz _ (hin i hi)
  have hr := k.room
  have hpre : (catL L (1 + h * sec n) (sec n)).take ((framesS gs).length + 1) = framesS gs ++ [0] := by
    apply List.ext_getElem?
    intro p
    by_cases hp : p < (framesS gs).length + 1
    · rw [List.getElem?_take_of_lt hp, catL_get (z := z) (fun i hi => hz _ (hin i hi)) (by omega), first_base]
      exact k.bytes p hp
    · rw [List.getElem?_eq_none (by rw [List.length_take]; omega), List.getElem?_eq_none (by rw [List.length_append, List.length_singleton]; omega)]
  refine ⟨(catL L (1 + h * sec n) (sec n)).drop ((framesS gs).length + 1), ?_⟩
  conv => lhs; rw [← List.take_append_drop ((framesS gs).length + 1) (catL L (1 + h * sec n) (sec n)), hpre, List.append_assoc]
  rfl
theorem index_first (s : ByteArray) (hf : Nat) (h1 : hf ≤ 1) (hb : byt s 0 = some (UInt8.ofNat hf)) (W : World) : (Instr.index 9 (.string s) (.int .i64 0)).run Tryz.prog W = .ok (.int .u8 hf) W := by
  have hp : 0 < s.size := by
    unfold byt at hb
    have := (List.getElem?_eq_some_iff.1 hb).1
    simpa using this
  rw [run_index_string W 9 s .i64 0 Tryz.underlying9, dif_pos ⟨by omega, by omega⟩]
  have e : (s[((0 : Int)).toNat]'(by simpa using hp)).toNat = hf := by
    unfold byt at hb
    have h2 := (List.getElem?_eq_some_iff.1 hb).2
    have h3 : s[((0 : Int)).toNat]'(by simpa using hp) = UInt8.ofNat hf := by rw [← h2]; rfl
    rw [h3]
    rcases (show hf = 0 ∨ hf = 1 by omega) with rfl | rfl <;> rfl
  rw [e]
section
variable {w : World} {d : Dk} {S : St}
/-- A log that has just been made in memory. -/
theorem Log.made (h : Is w d S) (hf : Nat) : Log (w.alloc (.cells #[ptr d.pb, .int .i64 hf, .int .i64 0, .slice none 0 0] walT)) ⟨d, w.heap.size, .slice none 0 0⟩ S ⟨hf, 0, []⟩ := by
  have hb : Below w.heap.size w (w.alloc (.cells #[ptr d.pb, .int .i64 hf, .int .i64 0, .slice none 0 0] walT)) := (Below.refl _ _).alloc (Nat.le_refl _) _
  refine ⟨h.frame (F := fun _ => False) (Fr.of_below hb) fun _ e => e.elim, Lies.new _ _ _, World.ownsRow_nil _ _ _ _, ?_, fun e => ?_, fun b hb => by cases hb⟩
  · have h1 := (h.own_lt (k := d.pb) (.inl rfl)).1
    have h2 := (h.own_lt (k := d.pb) (.inl rfl)).2
    show d.B ≤ w.heap.size
    omega
  · have := (h.own_lt e).1
    exact Nat.lt_irrefl _ this
set_option maxRecDepth 100000 in
set_option maxHeartbeats 2000000 in
theorem openW (h : Is w d S) (hf : Nat) (gs : List Grp) (hh : Has S hf gs) :
    Calls Tryz.prog 48 #[ptr d.pb] w fun e w' => ∃ k v, e = .returned (.tuple #[ptr k.pw, v, .int .i64 0]) ∧ k.d = d ∧ w'.ownsRow w.heap.size strT 1 v gs.flatten.length (gs.flatten.map Value.string) ∧
      Log w' k S ⟨hf, (framesS gs).length, []⟩ ∧ w.heap.size ≤ k.pw ∧ Below w.heap.size w w' ∧ (∀ b, v.ownBlock = some b → ¬ ownW k b) ∧ (∀ b, ownW k b → own d b ∨ w.heap.size ≤ b) := by
  have ok := h.ok
  have hz1 := ok.low
  have h1 := hh.lg.half
  have hcon := hh.clean.con
  have hsz : ∀ i, i < S.dur.length → (at0 S.dur i).size = S.z := fun i hi => ok.fit.at hi
  obtain ⟨r, hr⟩ := half_bytes hh.lg hsz
  have hrd := readIs_any h ((0 : Nat) : Int)
  have e0 : readS S ((0 : Nat) : Int) = (at0 S.dur 0, 0) := by
    unfold readS
    rw [if_neg (by have := hh.lg.n1; omega), if_neg (by rw [hh.clean.off]; simp), Int.toNat_natCast, hcon]
  rw [e0] at hrd
  have hs0 := hsz 0 (by have := hh.lg.n1; omega)
  have hb0 : byt (at0 S.dur 0) 0 = some (UInt8.ofNat hf) := by
    have := hh.lg.first
    have h2 := ab_at (z := S.z) (i := 0) (k := 0) S.dur (by omega)
    rw [Nat.zero_mul] at h2
    rw [← h2]
    exact this
  have hix := index_first _ hf h1 hb0
  have HRD := Lib.hid hrd
  have hm := Log.made h hf
  have hal : Below w.heap.size w (w.alloc (.cells #[ptr d.pb, .int .i64 hf, .int .i64 0, .slice none 0 0] walT)) := (Below.refl _ _).alloc (Nat.le_refl _) _
  have hrw := readW hm hh.clean.off h1 hh.lg.z2 hh.lg.n2 (by have := hh.lg.n1; omega)
  have HM := Lib.hid (And.intro hm hal)
  have HRW := Lib.hid hrw
  have HC : Hid (∀ C : ByteArray, bl C = catL (con S) (1 + hf * sec S.dur.length) (sec S.dur.length) → bl C = framesS gs ++ 0 :: r ∧ C.size ≤ 100000) := Lib.hid fun C hC => by
    rw [hcon] at hC
    refine ⟨hC.trans hr, ?_⟩
    have hlen : (catL S.dur (1 + hf * sec S.dur.length) (sec S.dur.length)).length = sec S.dur.length * S.z := catL_length (fun i hi => hsz _ (by
      have h2 := hh.lg.n1
      have : 1 + 2 * sec S.dur.length ≤ S.dur.length := by unfold sec; omega
      rcases (show hf = 0 ∨ hf = 1 by omega) with e | e
      · rw [e]; omega
      · rw [e]; omega))
    rw [← bl_len, hC, hlen]
    have hz := hh.lg.z2
    have hn := hh.lg.n2
    have hszb : sec S.dur.length * S.z ≤ 19 * 64 := Nat.mul_le_mul (by unfold sec; omega) hz
    omega
  have hg1 : decide ((1 : Int) < (hf : Int)) = false := by simp; omega
  clear h hh ok hcon hsz hr hrd e0 hb0 hm hal hrw
  generalize at0 S.dur 0 = X at *
  go_enter Tryz.func48, Tryz.ntmps48
  go_wp2_with fail
  refine HRD.out.mono ?_
  rintro e w' ⟨rfl, rfl⟩
  clear HRD
  go_wp2_with fail
  refine HRW.out.mono ?_
  rintro e w2 ⟨C, rfl, hC, hb2⟩
  obtain ⟨hC1, hC2⟩ := HC.out C hC
  have hps := passW (HM.out.1.below hb2) rfl C gs r hC2 hC1
  have HPS := Lib.hid hps
  have HL2 := Lib.hid (HM.out.1.below hb2)
  have HB2 := Lib.hid (HM.out.2.trans (hb2.mono HM.out.2.size))
  clear hps hC hb2 hC1 hC2 HRW HC
  go_wp2_with fail
  refine HPS.out.mono ?_
  rintro e w3 ⟨v, rfl, ho, hL, hfr⟩
  go_wp2_with fail
  go_ret3
  have hB3 : Below w.heap.size w2 w3 := hfr.below HB2.out.size fun b e => by rw [e]; exact Nat.le_refl _
  exact ⟨_, _, rfl, rfl, owns_low ho HB2.out.size, hL, Nat.le_refl _, HB2.out.trans hB3, fun b hb e => by have h1 := (ho.lt b hb).1; have h2 := (HL2.out.own_lt e).1; omega, fun b hb => by
    rcases hb with hb | hb | hb
    · exact .inl hb
    · exact .inr (by rw [hb]; exact Nat.le_refl _)
    · cases hb⟩
end
end Go.Proofs.YtghpohiinnallaaGreatDoor.Wal

/-
  Walks of the program's log, eleventh part: Format, of a new disk.
-/
namespace Go.Proofs.YtghpohiinnallaaGreatDoor.Wal
open Go Go.RowKit
open Go.Proofs.YtghpohiinnallaaGreatDoor.Disk
open Go.Proofs.YtghpohiinnallaaGreatDoor.Nets (Reads Tab Small bl ba)

/-- A new disk being formatted. -/
def fS (n z j : Nat) : St := ⟨z, List.replicate n (zs z), ([⟨1, zs z⟩, ⟨0, zs z⟩] : List Wr).take j, 0, false, false, j⟩
def fmtS (n z : Nat) : St := ⟨z, List.replicate n (zs z), [], 0, false, false, 3⟩
theorem fS_zero (n z : Nat) : newS n z = fS n z 0 := rfl
theorem fS_put0 {n z : Nat} (h : 8 ≤ n) : putS (fS n z 0) 1 (zs z) = (fS n z 1, 0) := by
  have h1 : (fS n z 0).dur.length = n := List.length_replicate
  unfold putS
  rw [if_neg (by rw [h1, zs_size]; show ¬ (_ ∨ _ ∨ z ≠ z); omega), if_neg (by show ¬ false = true; simp), if_neg (by show ¬ 0 = 1; omega), if_neg (by show ¬ false = true; simp)]
  rfl
theorem fS_put1 {n z : Nat} (h : 8 ≤ n) : putS (fS n z 1) 0 (zs z) = (fS n z 2, 0) := by
  have h1 : (fS n z 1).dur.length = n := List.length_replicate
  unfold putS
  rw [if_neg (by rw [h1, zs_size]; show ¬ (_ ∨ _ ∨ z ≠ z); omega), if_neg (by show ¬ false = true; simp), if_neg (by show ¬ 0 = 1; omega), if_neg (by show ¬ false = true; simp)]
  rfl
theorem fS_flush {n z : Nat} : flushS (fS n z 2) = (fmtS n z, 0) := by
  have hc : con (fS n z 2) = List.replicate n (zs z) := by
    show ((List.replicate n (zs z)).set 1 (zs z)).set 0 (zs z) = _
    rw [List.set_replicate_self, List.set_replicate_self]
  unfold flushS
  rw [if_neg (by show ¬ false = true; simp), if_neg (by show ¬ 0 = 1; omega), hc]
  rfl
theorem fmt_has {n z : Nat} (h1 : 8 ≤ n) (h2 : n ≤ 40) (h3 : 16 ≤ z) (h4 : z ≤ 64) : Has (fmtS n z) 0 [] := by
  have hl : (fmtS n z).dur.length = n := List.length_replicate
  refine ⟨⟨rfl, rfl⟩, ?_⟩
  rw [hl]
  refine Lg.zero h1 h2 h3 h4 fun g hg => ?_
  obtain ⟨i, k, hk, rfl⟩ := addr_split (show 0 < z by omega) g
  have hi := addr_of hg
  show ab z (List.replicate n (zs z)) _ = _
  rw [ab_at _ hk]
  have : at0 (List.replicate n (zs z)) i = zs z := by
    unfold at0
    rw [List.getD_eq_getElem?_getD, List.getElem?_replicate, if_pos hi]
    rfl
  rw [this]
  unfold byt zs
  show ((List.replicate z (0 : UInt8)).toArray.toList)[k]? = _
  rw [List.toList_toArray, List.getElem?_replicate, if_pos hk]
/-- A log's disk written, the list of its sectors beside it. -/
structure FmtAt (w : World) (k : Wk) (sb : Nat) (n z j : Nat) (k' : Wk) (wr : World) : Prop where
  log : Log wr k' (fS n z j) ⟨0, 0, []⟩
  step : StepW w k wr k'
  secs : Lies wr sb #[.int .i64 1, .int .i64 0] 3
section
variable {w : World} {d : Dk}
set_option maxRecDepth 100000 in
set_option maxHeartbeats 2000000 in
theorem formatW {n z : Nat} (h : Is w d (newS n z)) (h1 : 8 ≤ n) (_h2 : n ≤ 40) (h3 : 16 ≤ z) (h4 : z ≤ 64) :
    Calls Tryz.prog 47 #[ptr d.pb] w fun e w' => ∃ k, e = .returned (.tuple #[ptr k.pw, .int .i64 0]) ∧ Log w' k (fmtS n z) ⟨0, 0, []⟩ ∧ k.d.B = d.B ∧ k.d.pb = d.pb ∧ Below d.B w w' := by
  have hm := Log.made h 0
  have hB : Hid (d.B ≤ w.heap.size) := by
    have h1 := (h.own_lt (k := d.pb) (.inl rfl)).1
    have h2 := (h.own_lt (k := d.pb) (.inl rfl)).2
    show _ ≤ _
    omega
  have hal : Below w.heap.size w (w.alloc (.cells #[ptr d.pb, .int .i64 (0 : Nat), .int .i64 0, .slice none 0 0] walT)) := (Below.refl _ _).alloc (Nat.le_refl _) _
  have HM := Lib.hid (And.intro hm hal)
  have HZ := Lib.hid (sizeIs hm.disk)
  have HR := Lib.hid (fun W => repeatW W z (by omega))
  have HF := Lib.hid (fun W k' S' L' (hl : Log W k' S' L') => (by have := firstW hl 0 (by omega); rw [Nat.zero_mul, Nat.add_zero] at this; exact this : Calls Tryz.prog 80 #[ptr k'.pw, .int .i64 (0 : Nat)] W fun e w' => e = .returned (.int .i64 (1 : Nat)) ∧ w' = W))
  have HP0 := Lib.hid (fS_put0 (z := z) h1)
  have HP1 := Lib.hid (fS_put1 (z := z) h1)
  have hzs : (zs z).size = z := zs_size z
  clear h hm hal
  go_enter Tryz.func47, Tryz.ntmps47
  go_wp2_with fail
  refine HZ.out.mono ?_
  rintro e w1 ⟨rfl, rfl⟩
  clear HZ
  go_wp2_with fail
  refine (HR.out _).mono ?_
  rintro e w2 ⟨rfl, hb2⟩
  have hL2 := HM.out.1.below hb2
  have HB2 := Lib.hid (HM.out.2.trans (hb2.mono HM.out.2.size))
  have HF2 := Lib.hid (HF.out w2 _ _ _ hL2)
  have HL2 := Lib.hid hL2
  clear hL2 hb2 HF HR
  go_wp2_with fail
  refine HF2.out.mono ?_
  rintro e w3 ⟨rfl, rfl⟩
  go_wp2_with fail
  have hb3 : Below w3.heap.size w3 (w3.alloc (.cells #[.int .i64 1, .int .i64 0] 3)) := (Below.refl _ _).alloc (Nat.le_refl _) _
  have HW : Hid (FmtAt (w3.alloc (.cells #[.int .i64 1, .int .i64 0] 3)) ⟨d, w.heap.size, .slice none 0 0⟩ w3.heap.size n z 0 ⟨d, w.heap.size, .slice none 0 0⟩ (w3.alloc (.cells #[.int .i64 1, .int .i64 0] 3))) :=
    Lib.hid ⟨HL2.out.below hb3, StepW.refl _ _, Lies.new _ _ _⟩
  have HNO : Hid (∀ b, ownW ⟨d, w.heap.size, .slice none 0 0⟩ b → b < w3.heap.size ∧ d.B ≤ b) := Lib.hid fun b hb => HL2.out.own_lt hb
  have HB3 : Hid (Below w.heap.size w (w3.alloc (.cells #[.int .i64 1, .int .i64 0] 3)) ∧ (w3.alloc (.cells #[.int .i64 1, .int .i64 0] 3)).heap.size = w3.heap.size + 1) := Lib.hid ⟨HB2.out.trans (hb3.mono HB2.out.size), by simp⟩
  clear hb3 HL2 HB2 HM HF2
  generalize w3.alloc (.cells #[.int .i64 1, .int .i64 0] 3) = W at *
  generalize w3.heap.size = sb at *
  have HNW : Hid (∀ k' wr j, FmtAt W ⟨d, w.heap.size, .slice none 0 0⟩ sb n z j k' wr → ¬ ownW k' sb) := Lib.hid fun k' wr j hP e => by
    rcases hP.step.own sb e with e | e
    · have := (HNO.out sb e).1
      omega
    · have := HB3.out.2
      omega
  have HGO : Hid (∀ k' wr j S', FmtAt W ⟨d, w.heap.size, .slice none 0 0⟩ sb n z j k' wr → S' = fS n z (j + 1) → ∀ w', Disk.Left wr k'.d S' w' → ∃ k2, FmtAt W ⟨d, w.heap.size, .slice none 0 0⟩ sb n z (j + 1) k2 w') := Lib.hid fun k' wr j S' hP hS w' hl => by
    obtain ⟨cv', hL, hs⟩ := hP.log.left hl
    refine ⟨_, hS ▸ hL, hP.step.trans hs, hP.secs.same (hs.fr.block _ hP.secs.lt (HNW.out _ _ _ hP))⟩
  go_loopw [7, 8, 20] (fun _ _ i wr => ∃ j k', j ≤ 2 ∧ i = .int .i64 (j : Nat) ∧ FmtAt W ⟨d, w.heap.size, .slice none 0 0⟩ sb n z j k' wr) (fun _ _ i _ => 2 - (intOf i).toNat)
  case atStart => exact ⟨0, _, by omega, rfl, HW.out⟩
  case round =>
    obtain ⟨j, k', hj, rfl, hP⟩ := hrel
    have hs0 : wr.cell? ⟨sb, 0, none⟩ = some (.int .i64 1) := hP.secs.cell 0
    have hs1 : wr.cell? ⟨sb, 1, none⟩ = some (.int .i64 0) := hP.secs.cell 1
    have hpb : k'.d.pb = d.pb := hP.step.pb
    have HPP := Lib.hid hP
    rcases (show j = 0 ∨ j = 1 ∨ j = 2 by omega) with rfl | rfl | rfl
    · have hw := write_any hP.log.disk 1 (zs z) (by show 0 < 1000000; omega)
      rw [HP0.out, hpb] at hw
      have HWR := Lib.hid hw
      clear hP hw
      go_wp2_with fail
      refine HWR.out.mono ?_
      rintro e w' ⟨rfl, hl⟩
      obtain ⟨k2, hP2⟩ := HGO.out _ _ _ _ HPP.out rfl _ hl
      have HP2 := Lib.hid hP2
      clear hl hP2
      go_wp2_with fail
      go_roundw
      case rel => exact ⟨1, k2, by omega, rfl, HP2.out⟩
      case measure => simp [intOf]
    · have hw := write_any hP.log.disk 0 (zs z) (by show 1 < 1000000; omega)
      rw [HP1.out, hpb] at hw
      have HWR := Lib.hid hw
      clear hP hw
      go_wp2_with fail
      refine HWR.out.mono ?_
      rintro e w' ⟨rfl, hl⟩
      obtain ⟨k2, hP2⟩ := HGO.out _ _ _ _ HPP.out rfl _ hl
      have HP2 := Lib.hid hP2
      clear hl hP2
      go_wp2_with fail
      go_roundw
      case rel => exact ⟨2, k2, by omega, rfl, HP2.out⟩
      case measure => simp [intOf]
    · have hw := flush_any hP.log.disk (by show 2 < 1000000; omega)
      rw [fS_flush, hpb] at hw
      have HWR := Lib.hid hw
      clear hP hw
      go_wp2_with fail
      refine HWR.out.mono ?_
      rintro e w' ⟨rfl, hl⟩
      obtain ⟨cv', hL, hs⟩ := HPP.out.log.left hl
      have HQ := Lib.hid (And.intro hL (HPP.out.step.trans hs))
      clear hl hL hs
      go_wp2_with fail
      go_ret2
      have hpw : k'.pw = w.heap.size := HPP.out.step.pw
      rw [← hpw]
      refine ⟨{ k' with d := { k'.d with cv := cv' } }, rfl, HQ.out.1, HQ.out.2.B, HQ.out.2.pb, ?_⟩
      have hbw : Below d.B W w' := HQ.out.2.fr.below (by have := HB3.out.1.size; have := hB.out; omega) fun b hb => (HNO.out b hb).2
      exact (HB3.out.1.mono hB.out).trans hbw
end
end Go.Proofs.YtghpohiinnallaaGreatDoor.Wal
