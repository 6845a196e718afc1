/-
  Walks of the law CellOwn.
-/
import Derived.Test.YtoknflnoehmngaaDoorCellKinds
import Derived.Test.YtoknflnoehmngaaDoorCellLightB
import Derived.Test.YtoknflnoehmngaaDoorCellPut
import Derived.Test.YtoknflnoehmngaaDoorLawS
namespace Go.Proofs.YtoknflnoehmngaaDoor.Cell
open Go Go.RowKit
open Go.Proofs.YtoknflnoehmngaaDoor.Nets (putS rowS Tab)

theorem light_at {es : List Ent} {k : Nat} {e : Ent} (h : lightS es = true) (hk : es[k]? = some e) (h40 : k < 40) : lightE e = true := by
  unfold lightS at h
  rw [List.all_eq_true] at h
  refine h e ?_
  rw [List.mem_iff_getElem?]
  exact ⟨k, by rw [List.getElem?_take_of_lt h40]; exact hk⟩
theorem ReadsE.shape {w : World} {v : Value} {es : List Ent} (h : ReadsE w v es) :
    ∃ a cap, v = .slice a es.length cap ∧ (0 < es.length → ∃ b off, a = some ⟨b, off, none⟩ ∧ b < w.heap.size ∧ ∀ i e, es[i]? = some e → w.rangeAt b (off + i * 6) (entC e)) := by
  rcases h with ⟨a, cap, rfl, rfl⟩ | ⟨h0, b, off, cap, rfl, h3, h4⟩
  · exact ⟨a, cap, rfl, fun h => absurd h (by simp)⟩
  · exact ⟨_, cap, rfl, fun _ => ⟨b, off, rfl, h3, h4⟩⟩
theorem OkE.below {w w' : World} {e : Ent} (h : OkE w e) (hb : Below w.heap.size w w') : OkE w' e :=
  ⟨h.name, h.s, h.n0, h.n1, h.k0, h.k1, h.reads.below hb, h.each, h.few⟩
section
variable {w wr w' : World} {pb mb k : Nat} {G : List Pair}
/-- The bag behind some puts. -/
def OwnG (w : World) (pb mb k : Nat) (G : List Pair) (wr : World) : Prop := BagAt wr pb mb G ∧ G.length ≤ k ∧ (∀ g ∈ G, (pn g).size ≤ 100) ∧ Below w.heap.size w wr
theorem own_next {e : Ent} (h : OwnG w pb mb k G wr) (hd : Done wr w' pb mb G e) (hn : e.name.size ≤ 100) (hmb : w.heap.size ≤ mb) : ∃ G', OwnG w pb mb (k + 1) G' w' := by
  obtain ⟨hB, hl, hs, hb⟩ := h
  obtain ⟨G', hm, hB', hg⟩ := hd
  refine ⟨G', hB', ?_, ?_, hb.grown hg hb.size (fun k hk => by cases hk; exact hmb)⟩
  · have h1 := congrArg List.length hm
    rw [List.length_map] at h1
    have h2 := sets_length Ent.name (okB e) e (G.map (·.1))
    rw [List.length_map] at h2
    omega
  · intro g hg'
    have h1 : g.1 ∈ G'.map (·.1) := List.mem_map_of_mem hg'
    rw [hm] at h1
    rcases sets_mem Ent.name h1 with ⟨_, h2⟩ | h2
    · show g.1.name.size ≤ 100
      rw [h2]; exact hn
    · obtain ⟨g0, hg0, e0⟩ := List.mem_map.1 h2
      have := hs g0 hg0
      show g.1.name.size ≤ 100
      rw [← e0]; exact this
theorem kinds_here (h : BagAt w pb mb G) (n : ByteArray) (hn : n.size ≤ maxLen) (x : Pair) (ha : at? pn n G = some x) :
    Calls Tryd.prog 17 #[ptr pb, .string n] w fun e w' => e = .returned (.int .i64 1) ∧ Below w.heap.size w w' := by
  have := kinds_any h n hn
  rw [ha] at this
  exact this
theorem kinds_none (h : BagAt w pb mb G) (n : ByteArray) (hn : n.size ≤ maxLen) (ha : at? pn n G = none) :
    Calls Tryd.prog 17 #[ptr pb, .string n] w fun e w' => e = .returned (.int .i64 0) ∧ Below w.heap.size w w' := by
  have := kinds_any h n hn
  rw [ha] at this
  exact this
end
def xEnt (n : ByteArray) : Ent := ⟨n, ⟨1, ⟨#[120]⟩, 0, false, none, 0, 0, []⟩⟩
theorem at_gone (n : ByteArray) (G : List Pair) : at? pn n (del pn n G) = none := by rw [at_del, if_pos rfl]
theorem at_left {n o : ByteArray} (h : ¬ n = o) (x : Value) (G : List Pair) : at? pn n (del pn o (put pn (xEnt n, x) G)) = some (xEnt n, x) := by
  rw [at_del, if_neg (fun e => h e.symm), at_put]
  exact if_pos rfl
theorem at_new (n : ByteArray) (x : Value) (G : List Pair) : (at? pn n (put pn (xEnt n, x) G)).isSome = true := by
  rw [at_put, if_pos (show pn (xEnt n, x) = n from rfl)]
  rfl
set_option maxHeartbeats 4000000 in
set_option maxRecDepth 100000 in
theorem cellOwn_any (v : Value) (es : List Ent) (n o : ByteArray) (w : World) (h : ReadsE w v es) (ho : ∀ e ∈ es, OkE w e) (hm : es.length ≤ 9223372036854775807) (hn : n.size ≤ 9223372036854775807) (hon : o.size ≤ 9223372036854775807) (hT : Tab w) :
    Calls Tryd.prog 4 #[v, .string n, .string o] w fun e w' => e = .returned (.bool true) ∧ Below w.heap.size w w' := by
  have HW := Lib.hid (works_any w hT)
  have HL := Lib.hid (fun W (hW : Below w.heap.size w W) => lights_any v es W (h.below hW) (fun e he => (ho e he).below hW) hm)
  obtain ⟨a, cap, rfl, hsh⟩ := h.shape
  have HS := Lib.hid hsh
  have HO := Lib.hid ho
  clear h ho hT hsh
  go_enter Tryd.func4, Tryd.ntmps4
  go_wp2_with fail
  refine HW.out.mono ?_
  rintro e w1 ⟨rfl, hb1⟩
  have hmb := hb1.size
  have HB1 := Lib.hid hb1
  clear hb1 HW
  go_wp2_with fail
  refine (new_any w1).mono ?_
  rintro e w2 ⟨rfl, hw2⟩
  have hbag : BagAt w2 (w1.heap.size + 1) w1.heap.size [] := by rw [hw2]; exact made w1
  have hbb : Below w1.heap.size w1 w2 := by rw [hw2]; exact ((Below.refl _ _).alloc (Nat.le_refl _) _).alloc (by simp) _
  have HB2 := Lib.hid (And.intro hbag (HB1.out.trans (hbb.mono HB1.out.size)))
  clear hw2 hbag hbb
  cases hli : lightS es
  · go_wp2_with fail
    refine (HL.out w2 HB2.out.2).mono ?_
    rintro e w' ⟨rfl, rfl⟩
    rw [hli]
    go_wp2_with fail
    go_ret
    exact ⟨rfl, HB2.out.2⟩
  · go_wp2_with fail
    refine (HL.out w2 HB2.out.2).mono ?_
    rintro e w' ⟨rfl, rfl⟩
    rw [hli]
    have HLI := Lib.hid hli
    clear hli HL
    go_wp2_with fail
    go_loopw [8] (fun i wr => ∃ (k : Nat) (G : List Pair), k ≤ es.length ∧ k ≤ 40 ∧ i = .int .i64 k ∧ OwnG w (w1.heap.size + 1) w1.heap.size k G wr) (fun i _ => es.length - (intOf i).toNat)
    case atStart => exact ⟨0, [], Nat.zero_le _, by omega, rfl, HB2.out.1, Nat.le_refl _, fun g hg => (by cases hg), HB2.out.2⟩
    case round =>
      obtain ⟨k, G, hk, hk40, rfl, hG⟩ := hrel
      have HG := Lib.hid hG
      clear hG
      by_cases hlt : k < es.length ∧ k < 40
      · obtain ⟨e, hke⟩ : ∃ e, es[k]? = some e := ⟨es[k], List.getElem?_eq_getElem hlt.1⟩
        obtain ⟨b, off, rfl, h3, hC⟩ := HS.out (by omega)
        have hoe := HO.out e (List.mem_of_getElem? hke)
        have hle := lightE_of (light_at HLI.out hke hlt.2) hoe
        have hrd := range_below (hC k e hke) h3 HG.out.2.2.2
        obtain ⟨c0, c1, c2, c3, c4, c5⟩ := six hrd
        have HR := Lib.hid (hoe.reads.below HG.out.2.2.2)
        have HE := Lib.hid hle
        have hl1 := hlt.1
        have hl2 := hlt.2
        clear hrd hC hle hoe hlt hke
        by_cases g1 : e.v.kind < 1
        · go_wp2_with fail
          go_roundw
          case rel => exact ⟨k + 1, G, by omega, by omega, by simp, HG.out.1, by have := HG.out.2.1; omega, HG.out.2.2⟩
          case measure => simp [intOf]; omega
        · by_cases g2 : 4 < e.v.kind
          · go_wp2_with fail
            go_roundw
            case rel => exact ⟨k + 1, G, by omega, by omega, by simp, HG.out.1, by have := HG.out.2.1; omega, HG.out.2.2⟩
            case measure => simp [intOf]; omega
          · have hok : okB e = true := by unfold okB okKind; simp; omega
            have HP := Lib.hid (put_any HG.out.1 e Val.zero (by have := HE.out.name; unfold maxLen; omega) (by have := HG.out.2.1; omega) (fun h => by rw [hok] at h; cases h) HR.out (by have := HE.out.few; omega))
            clear hok
            go_wp2_with fail
            refine HP.out.mono ?_
            rintro r w3 ⟨rfl, hd⟩
            obtain ⟨G', hG'⟩ := own_next HG.out hd HE.out.name hmb
            have HG' := Lib.hid hG'
            clear hd hG'
            go_wp2_with fail
            go_roundw
            case rel => exact ⟨k + 1, G', by omega, by omega, by simp, HG'.out⟩
            case measure => simp [intOf]; omega
      · have hGl : G.length ≤ 40 := by have := HG.out.2.1; omega
        rcases (show (k < es.length ∧ ¬ k < 40) ∨ ¬ k < es.length by omega) with ⟨h40, h41⟩ | h40
        all_goals
          go_wp2_with fail
          refine (names_any HG.out.1).mono ?_
          rintro r w3 ⟨nv, rfl, hO3, hb3⟩
          obtain ⟨na, nc, rfl⟩ : ∃ na nc, nv = .slice na G.length nc := by
            rcases hO3.2 with ⟨hv, h0⟩ | ⟨g, cap, cur, hv, _⟩
            · exact ⟨none, 0, by rw [hv, h0]⟩
            · exact ⟨_, _, hv⟩
          have HN := Lib.hid (And.intro hO3 (And.intro (HG.out.1.below hb3) (HG.out.2.2.2.trans (hb3.mono HG.out.2.2.2.size))))
          clear hO3 hb3
          go_wp2_with fail
          go_loopw [10, 62] (fun _ j wr2 => ∃ m : Nat, m ≤ G.length ∧ j = .int .i64 m ∧ Below w3.heap.size w3 wr2) (fun _ j _ => G.length - (intOf j).toNat)
          case atStart => exact ⟨0, Nat.zero_le _, rfl, Below.refl _ _⟩
          case round =>
            obtain ⟨m, hm', rfl, hbm⟩ := hrel
            have HBM := Lib.hid hbm
            clear hbm
            by_cases hlt2 : m < G.length
            · obtain ⟨g, hgk⟩ : ∃ g, G[m]? = some g := ⟨G[m], List.getElem?_eq_getElem hlt2⟩
              obtain ⟨nb, rfl⟩ : ∃ nb, na = some ⟨nb, 0, none⟩ := by
                rcases HN.out.1.2 with ⟨hv, h0⟩ | ⟨nb, cap', cur, hv, _⟩
                · omega
                · exact ⟨nb, by simpa using (Value.slice.inj hv).1⟩
              have hO4 := owns_on HN.out.1 HBM.out
              have hc := hO4.cells (g := nb) rfl m (.string (pn g)) (by rw [List.getElem?_map, hgk]; rfl)
              rw [addr_add] at hc
              simp only [Nat.mul_one, Nat.zero_add] at hc
              have hg : g ∈ G := List.mem_of_getElem? hgk
              have HK := Lib.hid (kinds_here (HN.out.2.1.below HBM.out) (pn g) (by have := HG.out.2.2.1 g hg; unfold maxLen; omega) g (at_mem pn HG.out.1.rising g hg))
              clear hgk hg hO4
              go_wp2_with fail
              refine HK.out.mono ?_
              rintro r w4 ⟨rfl, hb4⟩
              have HB4 := Lib.hid (HBM.out.trans (hb4.mono HBM.out.size))
              clear hb4
              go_wp2_with fail
              go_roundw
              case rel => exact ⟨m + 1, by omega, by simp, HB4.out⟩
              case measure => simp [intOf]; omega
            · have HX := Lib.hid (And.intro (HN.out.2.1.below HBM.out) (HN.out.2.2.trans (HBM.out.mono HN.out.2.2.size)))
              go_wp2_with fail
              refine (putText_any HX.out.1 (xEnt n) rfl hn (by omega)).mono ?_
              rintro r w5 ⟨rfl, hB5, hT5⟩
              have HB5 := Lib.hid (And.intro hB5 (HX.out.2.grown hT5.grown HX.out.2.size (fun k hk => by cases hk; exact hmb)))
              clear hB5 hT5
              go_wp2_with fail
              refine (drop_any HB5.out.1 o hon).mono ?_
              rintro r w6 ⟨rfl, hB6, hT6⟩
              have HB6 := Lib.hid (And.intro hB6 (HB5.out.2.grown hT6.grown HB5.out.2.size (fun k hk => by cases hk; exact hmb)))
              clear hB6 hT6
              by_cases hno : n = o
              · have hee : (n.toList == o.toList) = true := by rw [name_eq, decide_eq_true hno]
                have hw : (at? pn o (put pn (xEnt n, .iface 9 (.string (xEnt n).v.s)) G)).isSome = true := by rw [← hno]; exact at_new _ _ _
                rw [hw]
                have K1 := Lib.hid (kinds_none HB6.out.1 n hn (by rw [hno]; exact at_gone _ _))
                clear hno hw
                go_wp2_with fail
                refine K1.out.mono ?_
                rintro r w7 ⟨rfl, hb7⟩
                have HB7 := Lib.hid hb7
                clear hb7
                go_wp2_with fail
                refine (kinds_none (HB6.out.1.below HB7.out) o hon (at_gone _ _)).mono ?_
                rintro r w8 ⟨rfl, hb8⟩
                have HB8 := Lib.hid (HB6.out.2.trans ((HB7.out.trans (hb8.mono HB7.out.size)).mono HB6.out.2.size))
                clear hb8
                go_wp2_with fail
                go_ret
                exact ⟨rfl, HB8.out⟩
              · have hee : (n.toList == o.toList) = false := by rw [name_eq, decide_eq_false hno]
                have K1 := Lib.hid (kinds_here HB6.out.1 n hn _ (at_left hno _ _))
                clear hno
                generalize (at? pn o (put pn (xEnt n, .iface 9 (.string (xEnt n).v.s)) G)).isSome = bw
                go_wp2_with fail
                refine K1.out.mono ?_
                rintro r w7 ⟨rfl, hb7⟩
                have HB7 := Lib.hid hb7
                clear hb7
                go_wp2_with fail
                refine (kinds_none (HB6.out.1.below HB7.out) o hon (at_gone _ _)).mono ?_
                rintro r w8 ⟨rfl, hb8⟩
                have HB8 := Lib.hid (HB6.out.2.trans ((HB7.out.trans (hb8.mono HB7.out.size)).mono HB6.out.2.size))
                clear hb8
                go_wp2_with fail
                go_ret
                exact ⟨rfl, HB8.out⟩
end Go.Proofs.YtoknflnoehmngaaDoor.Cell
