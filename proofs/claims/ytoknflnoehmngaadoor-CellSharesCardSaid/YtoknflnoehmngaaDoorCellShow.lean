/-
  How a bag is shown: the program's Show, and what it calls.
-/
import Derived.Test.YtoknflnoehmngaaDoorCellWalkD
import Derived.Lib.ItoaLen
namespace Go.Proofs.YtoknflnoehmngaaDoor.Cell
open Go Go.RowKit
open Go.Proofs.YtoknflnoehmngaaDoor.Nets (putS rowS Tab)

def letter (k : Int) : UInt8 := if k = 2 then 110 else if k = 4 then 108 else 116
def valText (v : Val) : List UInt8 := if v.kind = 2 then Lib.itoa v.n else if v.kind = 3 then (if v.is then [121, 101, 115] else [110, 111]) else if v.kind = 4 then rowS (v.ls.map bl) else bl v.s
def lineS (e : Ent) : List UInt8 := putS (bl e.name) ++ (letter e.v.kind :: (putS (valText e.v) ++ [10]))
def showS (q : List Ent) : List UInt8 := (q.map lineS).flatten

structure LightE (e : Ent) : Prop where
  name : e.name.size ≤ 100
  s : e.v.s.size ≤ 300
  few : e.v.ls.length ≤ 20
  each : ∀ x ∈ e.v.ls, x.size ≤ 100
  n0 : -9223372036854775808 ≤ e.v.n
  n1 : e.v.n ≤ 9223372036854775807

theorem put_le (l : List UInt8) (h : l.length ≤ 100000) : (putS l).length ≤ l.length + 11 := by
  have := Nets.dec_len l.length h
  unfold putS
  simp
  omega
theorem row_le (ls : List (List UInt8)) (h : ∀ l ∈ ls, l.length ≤ 100) : (rowS ls).length ≤ ls.length * 111 := by
  induction ls with
  | nil => simp [rowS]
  | cons l ls ih =>
    have h0 := h l (List.mem_cons_self ..)
    have h1 := put_le l (by omega)
    have h2 := ih (fun x hx => h x (List.mem_cons_of_mem _ hx))
    have e : rowS (l :: ls) = putS l ++ rowS ls := by simp [rowS]
    rw [e, List.length_append, List.length_cons]
    omega
theorem row_light {e : Ent} (h : LightE e) : (rowS (e.v.ls.map bl)).length ≤ 2220 := by
  have h1 := row_le (e.v.ls.map bl) (by
    intro l hl
    obtain ⟨x, hx, rfl⟩ := List.mem_map.1 hl
    have := h.each x hx
    simpa using this)
  have := h.few
  simp at h1
  omega
theorem valText_le {e : Ent} (h : LightE e) : (valText e.v).length ≤ 2220 := by
  have h1 := row_light h
  have h2 := Lib.itoa_length_le e.v.n h.n0 h.n1
  have h3 := h.s
  have h4 : (bl e.v.s).length = e.v.s.size := by simp
  unfold valText
  split
  · omega
  · split
    · split <;> decide
    · split
      · omega
      · omega
theorem line_le {e : Ent} (h : LightE e) : (lineS e).length ≤ 2344 := by
  have h1 := valText_le h
  have h2 := put_le (valText e.v) (by omega)
  have h3 : (bl e.name).length = e.name.size := by simp
  have h4 := h.name
  have h5 := put_le (bl e.name) (by omega)
  unfold lineS
  simp only [List.length_append, List.length_cons, List.length_nil]
  omega
theorem show_le (q : List Ent) (h : ∀ e ∈ q, LightE e) : (showS q).length ≤ q.length * 2344 := by
  induction q with
  | nil => simp [showS]
  | cons e q ih =>
    have h1 := line_le (h e (List.mem_cons_self ..))
    have h2 := ih (fun x hx => h x (List.mem_cons_of_mem _ hx))
    have e1 : showS (e :: q) = lineS e ++ showS q := by simp [showS]
    rw [e1, List.length_append, List.length_cons]
    omega
theorem show_snoc (q : List Ent) (e : Ent) : showS (q ++ [e]) = showS q ++ lineS e := by simp [showS]

theorem yesOrNo_any (b : Bool) (w : World) : Calls Tryd.prog 48 #[.bool b] w fun e w' => e = .returned (str (if b then [121, 101, 115] else [110, 111])) ∧ w = w' := by
  cases b
  all_goals
    go_enter Tryd.func48, Tryd.ntmps48
    go_wp2
    go_ret
    exact ⟨rfl, rfl⟩
theorem val1 {v : Val} (h : v.kind = 1) : valText v = bl v.s := by unfold valText; rw [h]; rfl
theorem val2 {v : Val} (h : v.kind = 2) : valText v = Lib.itoa v.n := by unfold valText; rw [h]; rfl
theorem val3 {v : Val} (h : v.kind = 3) : valText v = if v.is then [121, 101, 115] else [110, 111] := by unfold valText; rw [h]; rfl
theorem val4 {v : Val} (h : v.kind = 4) : valText v = rowS (v.ls.map bl) := by unfold valText; rw [h]; rfl
theorem small_light {e : Ent} (h : LightE e) : Nets.Small e.v.ls := ⟨by have := h.few; omega, fun x hx => by have := h.each x hx; omega⟩
set_option maxHeartbeats 1000000 in
theorem shown_any (g : Pair) (w : World) (ht : tied w g) (hl : LightE g.1) (hT : Tab w) : Calls Tryd.prog 36 #[g.2] w fun e w' => e = .returned (str (valText g.1.v)) ∧ Below w.heap.size w w' := by
  have hsm := small_light hl
  have n0 := hl.n0
  have n1 := hl.n1
  rcases ht with ⟨k, e⟩ | ⟨k, e⟩ | ⟨k, e⟩ | ⟨k, _, sv, e, hr⟩
  · rw [e, val1 k]
    have t1 := as_s_s
    clear hsm n0 n1 hl hT
    go_enter Tryd.func36, Tryd.ntmps36
    go_wp2
    go_ret
    exact ⟨rfl, Below.refl _ _⟩
  · rw [e, val2 k]
    have t1 := as_n_s
    have t2 := as_n_n
    have HT := Lib.hid hT
    clear hsm hl hT
    go_enter Tryd.func36, Tryd.ntmps36
    go_wp2_with (go_at_call 47; refine (Tryd.strconv_Itoa _ n0 n1 _ HT.out.1).mono ?_; rintro e w' ⟨rfl, k, os, rfl⟩; have hb := Lib.below_grow w.heap.size w (Nat.le_refl _) k os)
    go_ret
    exact ⟨rfl, hb⟩
  · rw [e, val3 k]
    have t1 := as_b_s
    have t2 := as_b_n
    have t3 := as_b_b
    have h0 := yesOrNo_any g.1.v.is w
    generalize (if g.1.v.is = true then ([121, 101, 115] : List UInt8) else [110, 111]) = y at h0 ⊢
    generalize g.1.v.is = b at h0 ⊢
    clear hsm hl hT n0 n1 e k
    go_enter Tryd.func36, Tryd.ntmps36
    go_wp2_with (go_at_call 48; refine h0.mono ?_; rintro e w' ⟨rfl, rfl⟩)
    go_ret
    exact ⟨rfl, Below.refl _ _⟩
  · rw [e, val4 k]
    have t1 := as_l_s
    have t2 := as_l_n
    have t3 := as_l_b
    have t4 := as_l_l
    have HR := Lib.hid (Nets.row_any sv g.1.v.ls w hr hsm hT)
    clear hsm hl hT n0 n1 hr
    go_enter Tryd.func36, Tryd.ntmps36
    go_wp2_with (go_at_call 49; refine HR.out.mono ?_; rintro e w' ⟨rfl, hb⟩)
    go_ret
    exact ⟨rfl, hb⟩

/-! The builder of Show, the names beside it, and what lay there before. -/
structure ShowSt (w : World) (v : Value) (G : List Pair) (acc : List UInt8) (wr : World) : Prop where
  built : Lib.IsBuilder 73 5 w.heap.size w.heap.size (Lib.byteCells acc) wr
  below : Below w.heap.size w wr
  names : wr.ownsRow (w.heap.size + 1) 9 1 v G.length (G.map fun g => Value.string (pn g))
section
variable {w wr w' : World} {v : Value} {G : List Pair} {acc : List UInt8}
theorem ShowSt.kept (h : ShowSt w v G acc wr) (hb : Below wr.heap.size wr w') : ShowSt w v G acc w' :=
  ⟨Nets.is_below h.built hb, h.below.trans (hb.mono h.below.size), Nets.owns_below h.names hb⟩
theorem owns_others {B b : Nat} {z n : Nat} {xs : List Value} (h : wr.ownsRow B 9 z v n xs) (ho : Lib.OthersKept 5 (some b) wr w') (hB : b < B) : w'.ownsRow B 9 z v n xs := by
  refine ⟨h.1, ?_⟩
  rcases h.2 with h2 | ⟨g, cap, cur, rfl, hg, h1, h2⟩
  · exact .inl h2
  · refine .inr ⟨g, cap, cur, rfl, hg, ho g _ h1 (by simp; omega) (fun c fz e => ?_), h2⟩
    have := (Obj.cells.inj e).2.1
    exact absurd this (by decide)
theorem ShowSt.write (h : ShowSt w v G acc wr) (s : ByteArray) (hs : acc.length + s.size ≤ 1000000000) :
    Calls Tryd.prog 34 #[.pointer (some ⟨w.heap.size, 0, none⟩), .string s] wr fun e w' => ∃ n, e = .returned (.tuple #[n, .nilIface]) ∧ ShowSt w v G (acc ++ bl s) w' := by
  refine (Nets.bwriteK_any w.heap.size w.heap.size (Lib.byteCells acc) s wr h.built (by rw [Nets.bytes_length]; omega) h.below.size).mono fun e w' hh => ?_
  obtain ⟨rfl, h1, h2, h3⟩ := hh
  refine ⟨_, rfl, .inr ?_, h.below.trans h2, owns_others h.names h3 (Nat.lt_succ_self _)⟩
  have e1 : Lib.byteCells acc ++ Lib.strCells s = Lib.byteCells (acc ++ bl s) := Nets.cells_put acc (bl s)
  rw [e1] at h1
  exact h1
end
/-- What the first k entries show. -/
def showK (G : List Pair) (k : Nat) : List UInt8 := showS ((G.take k).map (·.1))
theorem showK_succ (G : List Pair) (k : Nat) (g : Pair) (h : G[k]? = some g) : showK G (k + 1) = showK G k ++ lineS g.1 := by
  unfold showK
  rw [List.take_add_one, h]
  simp [show_snoc]
theorem showK_le (G : List Pair) (k : Nat) (h : ∀ g ∈ G, LightE g.1) (hf : G.length ≤ 100) : (showK G k).length ≤ 234400 := by
  have h1 := show_le ((G.take k).map (·.1)) (by
    intro e he
    obtain ⟨g, hg, rfl⟩ := List.mem_map.1 he
    exact h g (List.mem_of_mem_take hg))
  have h2 : ((G.take k).map (·.1)).length ≤ 100 := by simp; omega
  unfold showK
  omega
theorem letter_kind {w : World} {g : Pair} (h : tied w g) : (kname g.2).extract 0 1 = ⟨#[letter g.1.v.kind]⟩ ∧ 1 ≤ (kname g.2).size := by
  rcases h with ⟨k, e⟩ | ⟨k, e⟩ | ⟨k, e⟩ | ⟨k, _, sv, e, _⟩
  all_goals
    rw [e, k]
    refine ⟨rfl, ?_⟩
    first | rw [kn_s] | rw [kn_n] | rw [kn_b] | rw [kn_l]
    decide
def ShowAt (w : World) (v : Value) (G : List Pair) (i : Value) (wr : World) : Prop := ∃ k : Nat, k ≤ G.length ∧ i = .int .i64 k ∧ ShowSt w v G (showK G k) wr
theorem line_of (g : Pair) (acc : List UInt8) : acc ++ putS (bl (pn g)) ++ bl ⟨#[letter g.1.v.kind]⟩ ++ putS (valText g.1.v) ++ bl ⟨#[10]⟩ = acc ++ lineS g.1 := by
  show acc ++ putS (bl (pn g)) ++ [letter g.1.v.kind] ++ putS (valText g.1.v) ++ [10] = _
  simp [lineS]

section
variable {w : World} {pb mb : Nat} {G : List Pair}
set_option maxHeartbeats 2000000 in
theorem show_any (h : BagAt w pb mb G) (hL : ∀ g ∈ G, LightE g.1) (hT : Tab w) : Calls Tryd.prog 15 #[ptr pb] w fun e w' => e = .returned (str (showS (G.map (·.1)))) ∧ Below w.heap.size w w' := by
  have hfr := Nets.fresh w
  have hlt := h.plt
  have HG := Lib.hid h
  have HL := Lib.hid hL
  have HT := Lib.hid hT
  have hb0 : Below w.heap.size w (w.alloc (.cells #[.pointer none, .slice none 0 0] 73)) := (Below.refl _ _).alloc (Nat.le_refl _) _
  have HN := Lib.hid (names_any (h.below hb0))
  clear h hL hT
  go_enter Tryd.func15, Tryd.ntmps15
  go_wp2_with fail
  refine HN.out.mono ?_
  rintro e w1 ⟨v, rfl, hO, hb1⟩
  have hst : ShowSt w v G (showK G 0) w1 := ⟨Nets.is_below hfr hb1, hb0.trans (hb1.mono hb0.size), by simpa using hO⟩
  clear hO hb1 hfr hb0
  have HS := Lib.hid hst
  obtain ⟨a, cap, rfl⟩ : ∃ a cap, v = .slice a G.length cap := by
    rcases hst.names.2 with ⟨hv, h0⟩ | ⟨g, cap, cur, hv, _⟩
    · exact ⟨none, 0, by rw [hv, h0]⟩
    · exact ⟨_, _, hv⟩
  clear hst
  have hlen := HG.out.few
  go_wp2_with fail
  go_loopw [5, 9] (fun _ i wr => ShowAt w (.slice a G.length cap) G i wr) (fun _ i _ => G.length - (intOf i).toNat)
  case atStart => exact ⟨0, Nat.zero_le _, rfl, HS.out⟩
  case round =>
    obtain ⟨k, hk, rfl, hst⟩ := hrel
    by_cases hlt2 : k < G.length
    · obtain ⟨g, hgk⟩ : ∃ g, G[k]? = some g := ⟨G[k], List.getElem?_eq_getElem hlt2⟩
      obtain ⟨nb, rfl⟩ : ∃ nb, a = some ⟨nb, 0, none⟩ := by
        rcases hst.names.2 with ⟨hv, h0⟩ | ⟨nb, cap', cur, hv, _⟩
        · omega
        · exact ⟨nb, by simpa using (Value.slice.inj hv).1⟩
      have hc : wr.cell? ⟨nb, k, none⟩ = some (.string (pn g)) := by
        have := hst.names.cells (g := nb) rfl k (.string (pn g)) (by rw [List.getElem?_map, hgk]; rfl)
        rw [addr_add] at this
        simpa using this
      have hg : g ∈ G := List.mem_of_getElem? hgk
      have hle := HL.out g hg
      have HE := Lib.hid (And.intro hg hle)
      have HK := Lib.hid (showK_succ G k g hgk)
      have hn1 : (pn g).size ≤ 100 := hle.name
      have HA := Lib.hid (showK_le G k HL.out hlen)
      have HV := Lib.hid (And.intro (valText_le hle) (put_le (valText g.1.v) (by have := valText_le hle; omega)))
      have HP := Lib.hid (put_le (bl (pn g)) (by simp; omega))
      have HQ := Lib.hid (letter_kind (HG.out.tied g hg))
      have HAT := Lib.hid (at_mem pn HG.out.rising g hg)
      have hvv : valueAt (pn g) G = g.2 := by unfold valueAt; rw [HAT.out]
      have HST := Lib.hid hst
      clear hst hg hgk hle
      go_wp2_with fail
      refine (Nets.put_any (pn g) wr (by omega) (HT.out.below HST.out.below)).mono ?_
      rintro e w2 ⟨rfl, hb2⟩
      have HS2 := Lib.hid (HST.out.kept hb2)
      clear hb2
      go_wp2_with fail
      refine (HS2.out.write (ba (putS (bl (pn g)))) (by have h1 := HA.out; have h2 := HP.out; have h3 : (bl (pn g)).length = (pn g).size := by simp
                                                        have h4 : (ba (putS (bl (pn g)))).size = (putS (bl (pn g))).length := by simp [ByteArray.size]
                                                        omega)).mono ?_
      rintro e w3 ⟨n3, rfl, hs3⟩
      have HS3 := Lib.hid hs3
      clear hs3
      go_wp2_with fail
      refine (kind_any (HG.out.below HS3.out.below) (pn g) (by unfold maxLen; omega)).mono ?_
      rintro e w' ⟨rfl, rfl⟩
      rw [hvv]
      have hq1 := HQ.out.1
      have hq2 := HQ.out.2
      go_wp2_with fail
      clear hq1 hq2
      refine (HS3.out.write ⟨#[letter g.1.v.kind]⟩ (by
        have h1 := HA.out
        have h2 := HP.out
        have h3 : (bl (pn g)).length = (pn g).size := by simp
        have h5 : (⟨#[letter g.1.v.kind]⟩ : ByteArray).size = 1 := rfl
        have h6 : (bl (ba (putS (bl (pn g))))).length = (putS (bl (pn g))).length := rfl
        rw [List.length_append]
        omega)).mono ?_
      rintro e w4 ⟨n4, rfl, hs4⟩
      have HS4 := Lib.hid hs4
      clear hs4
      have hc4 := (HG.out.below HS4.out.below).cell
      have hl4 := (HG.out.below HS4.out.below).look (pn g) (by unfold maxLen; omega)
      rw [hvv] at hl4
      go_wp2_with fail
      refine (shown_any g w4 ((HG.out.below HS4.out.below).tied g HE.out.1) HE.out.2 (HT.out.below HS4.out.below)).mono ?_
      rintro e w5 ⟨rfl, hb5⟩
      have HS5 := Lib.hid (HS4.out.kept hb5)
      clear hb5 hc4 hl4
      go_wp2_with fail
      refine (Nets.put_any (ba (valText g.1.v)) w5 (by have h1 := HV.out.1; have h2 : (ba (valText g.1.v)).size = (valText g.1.v).length := by simp [ByteArray.size]
                                                       omega) (HT.out.below HS5.out.below)).mono ?_
      rintro e w6 ⟨rfl, hb6⟩
      have HS6 := Lib.hid (HS5.out.kept hb6)
      clear hb6
      go_wp2_with fail
      refine (HS6.out.write (ba (putS (valText g.1.v))) (by
        have h1 := HA.out
        have h2 := HP.out
        have h3 : (bl (pn g)).length = (pn g).size := by simp
        have h4 := HV.out.1
        have h5 := HV.out.2
        have h6 : (bl (ba (putS (bl (pn g))))).length = (putS (bl (pn g))).length := rfl
        have h7 : (ba (putS (valText g.1.v))).size = (putS (valText g.1.v)).length := by simp [ByteArray.size]
        have h8 : (bl ⟨#[letter g.1.v.kind]⟩).length = 1 := rfl
        rw [List.length_append, List.length_append]
        omega)).mono ?_
      rintro e w7 ⟨n7, rfl, hs7⟩
      have HS7 := Lib.hid hs7
      clear hs7
      go_wp2_with fail
      refine (HS7.out.write ⟨#[10]⟩ (by
        have h1 := HA.out
        have h2 := HP.out
        have h3 : (bl (pn g)).length = (pn g).size := by simp
        have h4 := HV.out.1
        have h5 := HV.out.2
        have h6 : (bl (ba (putS (bl (pn g))))).length = (putS (bl (pn g))).length := rfl
        have h7 : (bl (ba (putS (valText g.1.v)))).length = (putS (valText g.1.v)).length := rfl
        have h8 : (bl ⟨#[letter g.1.v.kind]⟩).length = 1 := rfl
        have h9 : (⟨#[10]⟩ : ByteArray).size = 1 := rfl
        rw [List.length_append, List.length_append, List.length_append]
        omega)).mono ?_
      rintro e w8 ⟨n8, rfl, hs8⟩
      have HS8 := Lib.hid hs8
      clear hs8
      go_wp2_with fail
      go_roundw
      case rel =>
        refine ⟨k + 1, by omega, by simp, ?_⟩
        rw [HK.out]
        have h := HS8.out
        have e1 := line_of g (showK G k)
        rw [show bl (ba (putS (bl (pn g)))) = putS (bl (pn g)) from rfl, show bl (ba (putS (valText g.1.v))) = putS (valText g.1.v) from rfl, e1] at h
        exact h
      case measure => simp [intOf]; omega
    · have HST := Lib.hid hst
      clear hst
      go_wp2_with fail
      refine (Tryd.Builder_String_any _ _ _ _ HST.out.built HST.out.below.size).mono ?_
      rintro e w2 ⟨rfl, hb2⟩
      go_wp2_with fail
      go_ret
      refine ⟨?_, HST.out.below.trans hb2⟩
      have e1 : showK G k = showS (G.map (·.1)) := by unfold showK; rw [List.take_of_length_le (by omega)]
      rw [← e1]
      rfl
end
end Go.Proofs.YtoknflnoehmngaaDoor.Cell
