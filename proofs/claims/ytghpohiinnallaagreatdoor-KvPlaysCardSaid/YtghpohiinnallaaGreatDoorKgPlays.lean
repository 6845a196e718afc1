/-
  Walk of the law KvPlays; its keys.
-/
import Derived.Test.YtghpohiinnallaaGreatDoorKgBoth
import Derived.Test.YtghpohiinnallaaGreatDoorKgRefA
import Derived.Deep.RegionHeld3
import Derived.Test.YtghpohiinnallaaGreatDoorKgShared

/-
  The law KvPlays, walked: the frame of its loop.
-/
namespace Go.Proofs.YtghpohiinnallaaGreatDoor.Kv
open Go Go.RowKit
open Go.Proofs.YtghpohiinnallaaGreatDoor.Disk (St Dk Is own Fr Lies newS fillS cutS new_at)
open Go.Proofs.YtghpohiinnallaaGreatDoor.Wal (Wl Wk Log ownW StepW Done Grp Has Kin Either SyncO ResetO framesS fmtS fmt_has Grd sec)
open Go.Proofs.YtghpohiinnallaaGreatDoor.Batch (less Rising at? Chg ptr Mem Bt Fine LightC madeL)
open Go.Proofs.YtghpohiinnallaaGreatDoor.Nets (Tab Reads Small bl)

abbrev ksT : TypeId := 25
theorem runs_made {w0 w1 w : World} {x : Sk} {n z q : Nat} (h : Below w0.heap.size w0 w1) (hst : Store w x (fmtS n z) ⟨0, 0, []⟩ q []) (h1 : 8 ≤ n) (h2 : n ≤ 40) (h3 : 16 ≤ z) (h4 : z ≤ 64) (hB : w1.heap.size ≤ x.k.d.B) (hb : Below w1.heap.size w1 w) :
    Runs w0 w x.ps x.k.d.pb x (fmtS n z) ⟨0, 0, []⟩ [] [] q 0 3 [] :=
  ⟨hst, Inv.start h1 h2 h3 h4, h.trans (hb.mono h.size), Nat.le_trans h.size hB, rfl, rfl⟩
/-- The boxes of the law. -/
structure Fra (w : World) (ks : Array Value) (B : Nat) (cs : Array Value) (W : World) (x : Sk) : Prop where
  keys : Lies W (w.heap.size + 1) ks ksT
  box : Lies W B cs r11T
  outk : ¬ ownS x (w.heap.size + 1)
  outb : ¬ ownS x B
  low : w.heap.size + 2 ≤ B
section
variable {w W W' : World} {ks cs : Array Value} {B : Nat} {x x' : Sk}
theorem Fra.below (h : Fra w ks B cs W x) (hb : Below W.heap.size W W') : Fra w ks B cs W' x :=
  ⟨h.keys.same (hb.block _ h.keys.lt), h.box.same (hb.block _ h.box.lt), h.outk, h.outb, h.low⟩
theorem Fra.moves (h : Fra w ks B cs W x) (hm : Moves W x W' x') : Fra w ks B cs W' x' := by
  refine ⟨h.keys.same (hm.fr.block _ h.keys.lt h.outk), h.box.same (hm.fr.block _ h.box.lt h.outb), fun o => ?_, fun o => ?_, h.low⟩
  · rcases hm.own _ o with o | o
    · exact h.outk o
    · have := h.keys.lt; omega
  · rcases hm.own _ o with o | o
    · exact h.outb o
    · have := h.box.lt; omega
theorem Fra.put (h : Fra w ks B cs W x) (hf : Fr (fun k => k = B) W W') {cs' : Array Value} (hl : Lies W' B cs' r11T) : Fra w ks B cs' W' x :=
  ⟨h.keys.same (hf.block _ h.keys.lt (by have := h.low; omega)), hl, h.outk, h.outb, h.low⟩
end
/-- Both stores at the head of a round. -/
structure BothAt (w : World) (ks : Array Value) (B pb q M k : Nat) (ps : Nat) (x : Sk) (S : St) (L : Wl) (gs : List Grp) (cs : List Chg) (P : List Pr) (s : ByteArray) (ta : Option Addr) (tn tc : Nat) (la : Option Addr) (ln lc : Nat) (W : World) : Prop where
  run : Runs w W ps pb x S L gs cs q (12 * k) (3 + 168 * k) P
  doc : Docs W x S gs P M s (.slice ta tn tc) (.slice la ln lc)
  left : S.left = 0
  fra : Fra w ks B (rsC M L.half s (.slice ta tn tc) (.slice none 0 0) S.full q (.slice la ln lc)) W x
  tne : (Value.slice ta tn tc).ownBlock ≠ some B
  lne : (Value.slice la ln lc).ownBlock ≠ some B
section
variable {w W W' : World} {ks : Array Value} {B pb q M k ps : Nat} {x x' : Sk} {S S' : St} {L L' : Wl} {gs gs' : List Grp} {cs cs' : List Chg} {P P' : List Pr} {s s' : ByteArray} {ta ta' : Option Addr} {tn tc tn' tc' : Nat} {la la' : Option Addr} {ln lc ln' lc' : Nat}
theorem BothAt.below (h : BothAt w ks B pb q M k ps x S L gs cs P s ta tn tc la ln lc W) (hb : Below W.heap.size W W') : BothAt w ks B pb q M k ps x S L gs cs P s ta tn tc la ln lc W' :=
  ⟨h.run.below hb, h.doc.below hb, h.left, h.fra.below hb, h.tne, h.lne⟩
/-- An act done, and written. -/
theorem BothAt.next (h : BothAt w ks B pb q M k ps x S L gs cs P s ta tn tc la ln lc W) {ps' : Nat} (hr : Runs w W' ps' pb x' S' L' gs' cs' q (12 * k + 12) (3 + 168 * k + 168) P') (hd : Docs W' x' S' gs' P' M s' (.slice ta' tn' tc') (.slice la' ln' lc')) (hl : S'.left = 0) (hm : Moves W x W' x') (h1 : Apart W (.slice ta tn tc) (.slice ta' tn' tc')) (h2 : Apart W (.slice la ln lc) (.slice la' ln' lc')) :
    BothAt w ks B pb q M (k + 1) ps' x' S' L' gs' cs' P' s' ta' tn' tc' la' ln' lc' (fill8 W' B (.int .i64 M) (.int .i64 L'.half) (.string s') (.slice ta' tn' tc') (.slice none 0 0) (.bool S'.full) (.int .i64 q) (.slice la' ln' lc')) := by
  have hF := h.fra.moves hm
  have hf := fr_fill8 W' B (.int .i64 M) (.int .i64 L'.half) (.string s') (.slice ta' tn' tc') (.slice none 0 0) (.bool S'.full) (.int .i64 q) (.slice la' ln' lc')
  have hB : B < W.heap.size := h.fra.box.lt
  have t1 : (Value.slice ta' tn' tc').ownBlock ≠ some B := fun e => by
    rcases h1 _ e with ⟨h5, _⟩ | h5
    · exact h.tne h5
    · omega
  have t2 : (Value.slice la' ln' lc').ownBlock ≠ some B := fun e => by
    rcases h2 _ e with ⟨h5, _⟩ | h5
    · exact h.lne h5
    · omega
  have hli := lies_fill8 hF.box (.int .i64 M) (.int .i64 L'.half) (.string s') (.slice ta' tn' tc') (.slice none 0 0) (.bool S'.full) (.int .i64 q) (.slice la' ln' lc')
  have hru := (hr.write (b := B) ⟨_, _, _, _, _, _, _, _, _, _, _, hF.box⟩ (by have := h.fra.low; omega) hF.outb hf).more (m' := 12 * (k + 1)) (n' := 3 + 168 * (k + 1)) (by omega) (by omega)
  have hdo := hd.write hf t1 t2
  have hfr := hF.put hf hli
  generalize fill8 W' B (.int .i64 M) (.int .i64 L'.half) (.string s') (.slice ta' tn' tc') (.slice none 0 0) (.bool S'.full) (.int .i64 q) (.slice la' ln' lc') = Wf at *
  exact ⟨hru, hdo, hl, hfr, t1, t2⟩
end
end Go.Proofs.YtghpohiinnallaaGreatDoor.Kv

/-
  The law KvPlays, walked.
-/
namespace Go.Proofs.YtghpohiinnallaaGreatDoor.Kv
open Go Go.RowKit
open Go.Proofs.YtghpohiinnallaaGreatDoor.Disk (St Dk Is own Fr Lies newS fillS cutS new_at)
open Go.Proofs.YtghpohiinnallaaGreatDoor.Wal (Wl Wk Log ownW StepW Done Grp Has Kin Either SyncO ResetO framesS fmtS fmt_has Grd sec)
open Go.Proofs.YtghpohiinnallaaGreatDoor.Batch (less Rising at? Chg ptr Mem Bt Fine LightC madeL)
open Go.Proofs.YtghpohiinnallaaGreatDoor.Nets (Tab Reads Small bl)

abbrev CellsK (W : World) (G B : Nat) (k0 k1 : ByteArray) (la : Option Addr) (ln lc : Nat) : Prop := W.cell? ⟨G, 0, none⟩ = some (.string k0) ∧ W.cell? ⟨G, 1, none⟩ = some (.string k1) ∧ W.cell? ⟨B, 7, none⟩ = some (.slice la ln lc)
abbrev Cells3 (W : World) (B : Nat) (h q : Int) (la : Option Addr) (ln lc : Nat) : Prop := W.cell? ⟨B, 1, none⟩ = some (.int .i64 h) ∧ W.cell? ⟨B, 6, none⟩ = some (.int .i64 q) ∧ W.cell? ⟨B, 7, none⟩ = some (.slice la ln lc)
set_option maxRecDepth 100000 in
set_option maxHeartbeats 40000000 in
theorem kvPlays_any (g0 g1 g2 : Int) (v : Value) (es : List Ak) (k0 k1 : ByteArray) (w : World) (h : ReadsA w v es) (ho : ∀ e ∈ es, OkA w e) (hm : es.length ≤ 9223372036854775807) (ht : Tab w)
    (hg0 : -9223372036854775808 ≤ g0 ∧ g0 ≤ 9223372036854775807) (hg1 : -9223372036854775808 ≤ g1 ∧ g1 ≤ 9223372036854775807) (hg2 : -9223372036854775808 ≤ g2 ∧ g2 ≤ 9223372036854775807) (hk0 : k0.size ≤ 9223372036854775807) (hk1 : k1.size ≤ 9223372036854775807) :
    Calls Tryz.prog 3 #[.agg #[.int .i64 g0, .int .i64 g1, .int .i64 g2], v, .agg #[.string k0, .string k1]] w fun e w' => e = .returned (.bool true) ∧ Below w.heap.size w w' := by
  obtain ⟨va, cap, rfl, hsh⟩ := h.shape
  obtain ⟨W0, hW0⟩ : ∃ W, W = (w.alloc (.cells #[.int .i64 g0, .int .i64 g1, .int .i64 g2] geoT)).alloc (.cells #[.string k0, .string k1] ksT) := ⟨_, rfl⟩
  have hbx : Below w.heap.size w W0 := by rw [hW0]; exact ((Below.refl _ _).alloc (Nat.le_refl _) _).alloc (by simp) _
  have hgb : Lies W0 w.heap.size #[.int .i64 g0, .int .i64 g1, .int .i64 g2] geoT := by rw [hW0]; exact (Lies.new w _ _).same (Below.heap_alloc _ _ _ (by simp))
  have hkb : Lies W0 (w.heap.size + 1) #[.string k0, .string k1] ksT := by rw [hW0]; exact new_at (by simp)
  have H0 := Lib.hid (And.intro h (And.intro ho (And.intro ht (And.intro hbx (And.intro hgb hkb)))))
  have HMD := Lib.hid (madeK_any g0 g1 g2 W0 hg0.1 hg0.2 hg1.1 hg1.2 hg2.1 hg2.2)
  have HSH := Lib.hid hsh
  have HKS := Lib.hid (And.intro hk0 hk1)
  have hz0 : W0.heap.size = w.heap.size + 2 := by rw [hW0]; simp
  have HZ0 := Lib.hid hz0
  have c0 : W0.cell? ⟨w.heap.size, 0, none⟩ = some (.int .i64 g0) := hgb.cell 0
  have c1 : W0.cell? ⟨w.heap.size, 1, none⟩ = some (.int .i64 g1) := hgb.cell 1
  have c2 : W0.cell? ⟨w.heap.size, 2, none⟩ = some (.int .i64 g2) := hgb.cell 2
  clear h ho ht hbx hgb hkb hg0 hg1 hg2 hsh hk0 hk1 hz0
  go_enter Tryz.func3, Tryz.ntmps3
  go_wp2_with fail
  rw [← hW0]
  clear hW0
  refine HMD.out.mono ?_
  rintro e w2 ⟨x, n, z, M, q, rfl, hmm, h1, h2, h3, h4, hq, hst, hB, hb2⟩
  have hq2 : q < 2000 := by omega
  have hR := runs_made H0.out.2.2.2.1 hst h1 h2 h3 h4 hB hb2
  have hbx : Below w2.heap.size w2 (w2.alloc (.cells (rsC (M : Int) 0 ⟨#[]⟩ (.slice none 0 0) (.slice none 0 0) false q (.slice none 0 0)) r11T)) := (Below.refl _ _).alloc (Nat.le_refl _) _
  have hD : Docs w2 x (fmtS n z) [] [] M ⟨#[]⟩ (.slice none 0 0) (.slice none 0 0) := ⟨by rw [hmm]; show _ = sec (List.replicate n _).length * z; rw [List.length_replicate], rfl, AsideT.nil, Aside.nil⟩
  have hF : Fra w #[.string k0, .string k1] w2.heap.size (rsC (M : Int) 0 ⟨#[]⟩ (.slice none 0 0) (.slice none 0 0) false q (.slice none 0 0)) (w2.alloc (.cells (rsC (M : Int) 0 ⟨#[]⟩ (.slice none 0 0) (.slice none 0 0) false q (.slice none 0 0)) r11T)) x :=
    ⟨((H0.out.2.2.2.2.2.same (hb2.block _ H0.out.2.2.2.2.2.lt)).same (hbx.block _ (by have := hb2.size; have := HZ0.out; omega))), Lies.new w2 _ _, fun o => by have := (hst.own_lt o).2; have := HZ0.out; omega, fun o => by have := (hst.own_lt o).1; omega, by have := hb2.size; have := HZ0.out; omega⟩
  have hBA : BothAt w #[.string k0, .string k1] w2.heap.size x.k.d.pb q M 0 x.ps x (fmtS n z) ⟨0, 0, []⟩ [] [] [] ⟨#[]⟩ none 0 0 none 0 0 (w2.alloc (.cells (rsC (M : Int) 0 ⟨#[]⟩ (.slice none 0 0) (.slice none 0 0) false q (.slice none 0 0)) r11T)) :=
    ⟨hR.below hbx, hD.below hbx, rfl, hF, fun e => (by cases e), fun e => (by cases e)⟩
  have hli := lights_any (.slice va es.length cap) es _ (H0.out.1.below hBA.run.old) (fun e he => (H0.out.2.1 e he).below hBA.run.old) hm
  have HLI := Lib.hid hli
  have HBA := Lib.hid hBA
  clear hmm h1 h2 h3 h4 hq hst hB hb2 hR hbx hD hF hBA hli HMD c0 c1 c2
  go_wp2_with fail
  generalize w2.alloc (.cells (rsC (M : Int) 0 ⟨#[]⟩ (.slice none 0 0) (.slice none 0 0) false q (.slice none 0 0)) r11T) = W2 at *
  generalize w2.heap.size = B at *
  refine HLI.out.mono ?_
  rintro e w3 ⟨b, rfl, hls, rfl⟩
  have HLS := Lib.hid hls
  clear HLI hls
  generalize hps : x.ps = ps at *
  generalize hpb : x.k.d.pb = pb at *
  clear hps hpb
  cases b
  · have HWK := Lib.hid (works_any w3 (H0.out.2.2.1.below HBA.out.run.old))
    go_wp2_with fail
    refine HWK.out.mono ?_
    rintro e w4 ⟨rfl, hb4⟩
    have HB4 := Lib.hid hb4
    clear hb4
    go_wp2_with fail
    go_ret
    exact ⟨rfl, HBA.out.run.old.trans (HB4.out.mono HBA.out.run.old.size)⟩
  · go_wp2_with fail
    have HLT := Lib.hid (HLS.out (by simp))
    clear HLS
    go_loopw [7, 10] (fun sv i wr => ∃ (k ps : Nat) (x : Sk) (S : St) (L : Wl) (gs : List Grp) (cs : List Chg) (P : List Pr) (s : ByteArray) (ta : Option Addr) (tn tc : Nat) (la : Option Addr) (ln lc : Nat), k ≤ es.length ∧ k ≤ 30 ∧ sv = ptr ps ∧ i = .int .i64 k ∧ BothAt w #[.string k0, .string k1] B pb q M k ps x S L gs cs P s ta tn tc la ln lc wr) (fun _ i _ => es.length - (intOf i).toNat)
    case atStart => exact ⟨0, ps, x, _, _, _, _, _, _, _, _, _, _, _, _, Nat.zero_le _, by omega, rfl, rfl, HBA.out⟩
    case round =>
      clear HBA x n z
      obtain ⟨k, ps, x, S, L, gs, cs, P, s, ta, tn, tc, la, ln, lc, hk, hk30, rfl, rfl, hA⟩ := hrel
      by_cases hlt : k < es.length ∧ k < 30
      · obtain ⟨e, hke⟩ : ∃ e, es[k]? = some e := ⟨es[k]'hlt.1, List.getElem?_eq_getElem hlt.1⟩
        obtain ⟨hl1, hl2⟩ := hlt
        obtain ⟨b, off, rfl, hbl, hcell⟩ := HSH.out (by omega)
        obtain ⟨kd, av, ls, is⟩ := e
        obtain ⟨e0, e1, e2⟩ := three (Batch.range_below (hcell k _ hke) hbl hA.run.old)
        have hoe := (H0.out.2.1 _ (List.mem_of_getElem? hke)).below hA.run.old
        have hla := lights_at HLT.out hke hl2
        obtain ⟨x0, x1, x2, x3, x4, x5, x6, x7⟩ := eight hA.fra.box
        have hbd : Below wr.heap.size wr wr.drew := (Below.refl _ _).drew
        have hA1 := hA.below hbd
        have hda := does_any hA1.run hA1.doc hA1.left hq2 (by omega) (by omega) H0.out.2.2.1 kd av ls is (hoe.below hbd) hla
        have HDA := Lib.hid hda
        have HA1 := Lib.hid hA1
        have HKE := Lib.hid (And.intro hbl (And.intro hcell hke))
        obtain ⟨aa, an, ac, rfl⟩ : ∃ a n c, av = .slice a n c := by
          obtain ⟨a, c, h⟩ := Batch.reads_form hoe.reads
          exact ⟨a, _, c, h⟩
        obtain ⟨y0, y1, y2, y3, y4, y5, y6, y7⟩ := eight hA1.fra.box
        clear hA hoe hla hbd hA1 hda hbl hcell hke
        go_wp2_with fail
        go_region_with ((go_at_call 10; refine HDA.out.mono ?_; rintro e w5 ⟨ps', x', S', L', gs', cs', P', s', tv', lv', rfl, hR5, hD5, hl5, hM5, hap1, hap2⟩; obtain ⟨ta', tc0, htv⟩ := hD5.tvR.1.form; generalize gs'.flatten.length = tn' at htv; obtain ⟨la', lc', hlv⟩ := hD5.lvR.1.shape; generalize P'.length = ln' at hlv; subst htv hlv; have hA6 := HA1.out.next hR5 hD5 hl5 hM5 hap1 hap2; have hF5 := HA1.out.fra.moves hM5; obtain ⟨y0, y1, y2, y3, y4, y5, y6, y7⟩ := eight hF5.box; have yf := fun j => hF5.box.free j; have HA6 := Lib.hid hA6; clear hA6 hR5 hD5 hl5 hM5 hap1 hap2 hF5))
        all_goals
          obtain ⟨W6, hW6⟩ : ∃ W, W = (((((((w5.setCell ⟨B, 0, none⟩ (.int .i64 M)).setCell ⟨B, 1, none⟩ (.int .i64 L'.half)).setCell ⟨B, 2, none⟩ (.string s')).setCell ⟨B, 3, none⟩ (.slice ta' tn' tc0)).setCell ⟨B, 4, none⟩ (.slice none 0 0)).setCell ⟨B, 5, none⟩ (.bool S'.full)).setCell ⟨B, 6, none⟩ (.int .i64 q)).setCell ⟨B, 7, none⟩ (.slice la' ln' lc') := ⟨_, rfl⟩
          have hW7 : fill8 w5 B (.int .i64 M) (.int .i64 L'.half) (.string s') (.slice ta' tn' tc0) (.slice none 0 0) (.bool S'.full) (.int .i64 q) (.slice la' ln' lc') = W6 := hW6.symm
          rw [← hW6]
          rw [hW7] at HA6
          clear hW6 hW7 y0 y1 y2 y3 y4 y5 y6 y7 yf
          have hA6 := HA6.out
          have HC := Lib.hid (fun W (hW : Below W6.heap.size W6 W) => eight (hA6.fra.below hW).box)
          obtain ⟨x0, x1, x2, x3, x4, x5, x6, x7⟩ := eight hA6.fra.box
          obtain ⟨f1, f2, f3, f4⟩ := hA6.run.inv.fairP hq2 (by omega)
          have hln : P'.length = ln' := by
            obtain ⟨a, c, h⟩ := hA6.doc.lvR.1.shape
            exact (Value.slice.inj h).2.1.symm
          obtain ⟨US, hUS⟩ : ∃ US, US = used P' := ⟨_, rfl⟩
          have hul : used P' ≤ 1000000000000 := by have := hA6.run.inv.usd; omega
          have HSC : Hid (∀ W, Below W6.heap.size W6 W → Calls Tryz.prog 12 #[ptr ps', .string ⟨#[]⟩] W fun e W' => ∃ a n c, e = .returned (.slice a n c) ∧ ReadsP W' (.slice a n c) P' ∧ Below W6.heap.size W6 W') := Lib.hid (fun W hW => ((hA6.run.below hW).scan hq2 (by omega)).mono fun e W' hh => by
            obtain ⟨u, rfl, hou, hb⟩ := hh
            obtain ⟨a, c, h⟩ := (owns_readsP hou).shape
            have := owns_readsP hou
            rw [h] at this
            exact ⟨a, _, c, by rw [h], this, hW.trans (hb.mono hW.size)⟩)
          have HSM : Hid (∀ W u, Below W6.heap.size W6 W → ReadsP W u P' → Calls Tryz.prog 11 #[u, .slice la' ln' lc'] W fun e W' => e = .returned (.bool true) ∧ Below W6.heap.size W6 W') := Lib.hid (fun W u hW hu => (same_any u (.slice la' ln' lc') P' P' W hu ((hA6.doc.below hW).lvR.1) f1 f1).mono fun e W' hh => by
            unfold AlikePost at hh
            rw [decide_eq_true rfl] at hh
            exact ⟨hh.1, hW.trans (hh.2.mono hW.size)⟩)
          have HUS := Lib.hid (fun W (hW : Below W6.heap.size W6 W) => (hA6.run.below hW).used)
          have HRU : Hid (∀ W, Below W6.heap.size W6 W → Calls Tryz.prog 14 #[.slice la' ln' lc'] W fun e W' => e = .returned (.int .i64 (used P')) ∧ Below W6.heap.size W6 W') := Lib.hid (fun W hW => (refUsed_any (.slice la' ln' lc') P' W ((hA6.doc.below hW).lvR.1) f1 hul).mono fun e W' hh => ⟨hh.1, hW.trans (hh.2.mono hW.size)⟩)
          have HLE : Hid (∀ W, Below W6.heap.size W6 W → Calls Tryz.prog 15 #[ptr ps'] W fun e W' => e = .returned (.int .i64 ln') ∧ W' = W) := Lib.hid (fun W hW => by
            have := lenS (hA6.run.below hW).st
            rwa [hA6.run.ps, hln] at this)
          have HHA : Hid (∀ W, Below W6.heap.size W6 W → Calls Tryz.prog 16 #[ptr ps'] W fun e W' => e = .returned (.int .i64 L'.half) ∧ W' = W) := Lib.hid (fun W hW => by
            have := halfS (hA6.run.below hW).st
            rwa [hA6.run.ps] at this)
          have HQU := Lib.hid (fun W (hW : Below W6.heap.size W6 W) => (hA6.run.below hW).quota)
          rw [← hUS] at HUS HRU
          have hd0 : Below W6.heap.size W6 W6.drew := (Below.refl _ _).drew
          have hu0 : ((US : Int) != US) = false := by simp
          have hu1 : ((ln' : Int) != ln') = false := by simp
          have hu2 : ((L'.half : Int) != L'.half) = false := by simp
          have hu3 : ((q : Int) != q) = false := by simp
          clear hA6 f1 f2 f3 f4 hln hUS hul
          go_wp2_with fail
          have HCW := Lib.hid (fun W (hW : Below W6.heap.size W6 W) => (⟨(HC.out W hW).2.1, (HC.out W hW).2.2.2.2.2.2.1, (HC.out W hW).2.2.2.2.2.2.2⟩ : Cells3 W B L'.half q la' ln' lc'))
          have hS0 := HCW.out _ hd0
          clear x0 x1 x2 x3 x4 x5 x6 x7
          go_region_held3 (fun W => W.cell? ⟨B, 1, none⟩ = some (.int .i64 L'.half) ∧ W.cell? ⟨B, 6, none⟩ = some (.int .i64 q) ∧ W.cell? ⟨B, 7, none⟩ = some (.slice la' ln' lc')) (first | (with_reducible exact hS_hk4) | (with_reducible exact hS_hk2) | (with_reducible exact hS_hk1) | (with_reducible exact hS0)) (first
            | (go_at_call 12; (refine (HSC.out _ (by assumption)).mono ?_); rintro e V1 ⟨a1, n1, c1, rfl, hs1, hk1⟩; have hS_hk1 := HCW.out _ hk1)
            | (go_at_call 11; (refine (HSM.out _ _ (by assumption) hs1).mono ?_); rintro e V2 ⟨rfl, hk2⟩; have hS_hk2 := HCW.out _ hk2)
            | (go_at_call 13; (refine (HUS.out _ (by assumption)).mono ?_); rintro e V3 ⟨rfl, rfl⟩)
            | (go_at_call 14; (refine (HRU.out _ (by assumption)).mono ?_); rintro e V4 ⟨rfl, hk4⟩; have hS_hk4 := HCW.out _ hk4)
            | (go_at_call 15; (refine (HLE.out _ (by assumption)).mono ?_); rintro e V5 ⟨rfl, rfl⟩)
            | (go_at_call 16; (refine (HHA.out _ (by assumption)).mono ?_); rintro e V6 ⟨rfl, rfl⟩)
            | (go_at_call 17; (refine (HQU.out _ (by assumption)).mono ?_); rintro e V7 ⟨rfl, rfl⟩))
          all_goals
            have HV := Lib.hid hk4
            clear hk1 hk2 hk4 hS_hk1 hS_hk2 hS_hk4 hS0 hs1 hd0
            go_wp2_with fail
            go_roundw
            case rel => exact ⟨k + 1, ps', x', S', L', gs', cs', P', s', ta', tn', tc0, la', ln', lc', by omega, by omega, rfl, by simp, HA6.out.below HV.out⟩
            case measure => simp [intOf]; omega
      · obtain ⟨f1, f2, f3, f4⟩ := hA.run.inv.fairP hq2 (by omega)
        have hris := hA.run.inv.fits.rise
        have hfew := hA.run.inv.few
        have HA := Lib.hid hA
        have y0 : wr.cell? ⟨w.heap.size + 1, 0, none⟩ = some (.string k0) := hA.fra.keys.cell 0
        have y1 : wr.cell? ⟨w.heap.size + 1, 1, none⟩ = some (.string k1) := hA.fra.keys.cell 1
        have hgs := getS hA.run.st hris f1 k0
        rw [hA.run.ps] at hgs
        have HF := Lib.hid (And.intro f1 (And.intro f4 (And.intro hris (show P.length ≤ 5000 by omega))))
        obtain ⟨gv, hgv⟩ : ∃ gv, gv = getV k0 P := ⟨_, rfl⟩
        obtain ⟨gb, hgb⟩ : ∃ gb, gb = (at? Pr.key k0 P).isSome := ⟨_, rfl⟩
        rw [← hgv, ← hgb] at hgs
        have HGS := Lib.hid hgs
        have HGV := Lib.hid (And.intro hgv hgb)
        have hlt2 : ¬ ((k : Int) < (es.length : Int) ∧ k < 30) := by omega
        clear hA f1 f2 f3 f4 hris hfew hgs hgv hgb
        by_cases h40 : k < es.length
        case' pos => have h41 : ¬ k < 30 := by omega
        all_goals
          go_wp2_with fail
          refine HGS.out.mono ?_
          rintro e w5 ⟨rfl, hb5⟩
          have hA5 := HA.out.below hb5
          have y0 : w5.cell? ⟨w.heap.size + 1, 0, none⟩ = some (.string k0) := hA5.fra.keys.cell 0
          obtain ⟨x0, x1, x2, x3, x4, x5, x6, x7⟩ := eight hA5.fra.box
          have hrg := refGet_any (.slice la ln lc) P k0 w5 hA5.doc.lvR.1 HF.out.1
          rw [← HGV.out.1, ← HGV.out.2] at hrg
          have HRG := Lib.hid hrg
          have HA5 := Lib.hid hA5
          clear hb5 hA5 hrg
          go_wp2_with fail
          refine HRG.out.mono ?_
          rintro e W6 ⟨rfl, hb6⟩
          have hA6 := HA5.out.below hb6
          have hd0 : Below W6.heap.size W6 W6.drew := (Below.refl _ _).drew
          have HCW := Lib.hid (fun W (hW : Below W6.heap.size W6 W) => (⟨(hA6.fra.below hW).keys.cell 0, (hA6.fra.below hW).keys.cell 1, (hA6.fra.below hW).box.cell 7⟩ : CellsK W (w.heap.size + 1) B k0 k1 la ln lc))
          have hS0 := HCW.out _ hd0
          have hS00 := HCW.out _ (Below.refl _ _)
          have HSC : Hid (∀ W, Below W6.heap.size W6 W → Calls Tryz.prog 12 #[ptr ps, .string k1] W fun e W' => ∃ a n c, e = .returned (.slice a n c) ∧ (∀ W2, Below W'.heap.size W' W2 → ReadsP W2 (.slice a n c) (scanL k1 P)) ∧ Below W.heap.size W W' ∧ Below W6.heap.size W6 W') := Lib.hid (fun W hW => by
            have := scanS (hA6.run.below hW).st HF.out.2.2.1 HF.out.1 k1 HKS.out.2 HF.out.2.1
            rw [hA6.run.ps] at this
            refine this.mono fun e W' hh => ?_
            obtain ⟨u, rfl, hou, hb⟩ := hh
            obtain ⟨a, c, h⟩ := (owns_readsP hou).shape
            have h5 := owns_readsP hou
            rw [h] at h5
            exact ⟨a, _, c, by rw [h], fun W2 h2 => h5.below h2, hb, hW.trans (hb.mono hW.size)⟩)
          have HRS : Hid (∀ W, Below W6.heap.size W6 W → Calls Tryz.prog 20 #[.slice la ln lc, .string k1] W fun e W' => ∃ a n c, e = .returned (.slice a n c) ∧ (∀ W2, Below W'.heap.size W' W2 → ReadsP W2 (.slice a n c) (scanL k1 P)) ∧ Below W.heap.size W W' ∧ Below W6.heap.size W6 W') := Lib.hid (fun W hW => (refScan_any (.slice la ln lc) P k1 W (hA6.doc.below hW).lvR.1 HF.out.2.2.2 HKS.out.2 HF.out.2.1).mono fun e W' hh => by
            obtain ⟨u, rfl, hou, hb⟩ := hh
            obtain ⟨a, c, h⟩ := (owns_readsP hou).shape
            have h5 := owns_readsP hou
            rw [h] at h5
            exact ⟨a, _, c, by rw [h], fun W2 h2 => h5.below h2, hb, hW.trans (hb.mono hW.size)⟩)
          have HRN : Hid (∀ W, Below W6.heap.size W6 W → Calls Tryz.prog 21 #[ptr ps, .string k0, .string k1] W fun e W' => ∃ a n c, e = .returned (.slice a n c) ∧ (∀ W2, Below W'.heap.size W' W2 → ReadsP W2 (.slice a n c) (P.filter (inR k0 k1))) ∧ Below W.heap.size W W' ∧ Below W6.heap.size W6 W') := Lib.hid (fun W hW => by
            have := rangeS (hA6.run.below hW).st HF.out.2.2.1 HF.out.1 k0 k1
            rw [hA6.run.ps, range_eq HF.out.2.2.1] at this
            refine this.mono fun e W' hh => ?_
            obtain ⟨u, rfl, hou, hb⟩ := hh
            obtain ⟨a, c, h⟩ := (owns_readsP hou).shape
            have h5 := owns_readsP hou
            rw [h] at h5
            exact ⟨a, _, c, by rw [h], fun W2 h2 => h5.below h2, hb, hW.trans (hb.mono hW.size)⟩)
          have HRR : Hid (∀ W, Below W6.heap.size W6 W → Calls Tryz.prog 22 #[.slice la ln lc, .string k0, .string k1] W fun e W' => ∃ a n c, e = .returned (.slice a n c) ∧ (∀ W2, Below W'.heap.size W' W2 → ReadsP W2 (.slice a n c) (P.filter (inR k0 k1))) ∧ Below W.heap.size W W' ∧ Below W6.heap.size W6 W') := Lib.hid (fun W hW => (refRange_any (.slice la ln lc) P k0 k1 W (hA6.doc.below hW).lvR.1 HF.out.2.2.2).mono fun e W' hh => by
            obtain ⟨u, rfl, hou, hb⟩ := hh
            obtain ⟨a, c, h⟩ := (owns_readsP hou).shape
            have h5 := owns_readsP hou
            rw [h] at h5
            exact ⟨a, _, c, by rw [h], fun W2 h2 => h5.below h2, hb, hW.trans (hb.mono hW.size)⟩)
          have HSM : Hid (∀ W u v T, Below W6.heap.size W6 W → ReadsP W u T → ReadsP W v T → T.length ≤ 100000 → Calls Tryz.prog 11 #[u, v] W fun e W' => e = .returned (.bool true) ∧ Below W6.heap.size W6 W') := Lib.hid (fun W u v T hW hu hv hT => (same_any u v T T W hu hv hT hT).mono fun e W' hh => by
            unfold AlikePost at hh
            rw [decide_eq_true rfl] at hh
            exact ⟨hh.1, hW.trans (hh.2.mono hW.size)⟩)
          have HWK : Hid (∀ W, Below W6.heap.size W6 W → Calls Tryz.prog 9 #[] W fun e W' => e = .returned (.bool true) ∧ Below W6.heap.size W6 W') := Lib.hid (fun W hW => (works_any W (H0.out.2.2.1.below (hA6.run.old.trans (hW.mono hA6.run.old.size)))).mono fun e W' hh => ⟨hh.1, hW.trans (hh.2.mono hW.size)⟩)
          have HLS : Hid ((scanL k1 P).length ≤ 100000 ∧ (P.filter (inR k0 k1)).length ≤ 100000) := Lib.hid ⟨Nat.le_trans (List.length_filter_le _ _) HF.out.1, Nat.le_trans (List.length_filter_le _ _) HF.out.1⟩
          have HOLD := Lib.hid hA6.run.old
          clear hA6 hb6 x0 x1 x2 x3 x4 x5 x6 x7 y0
          go_wp2_with fail
          go_region_held3 (fun W => W.cell? ⟨w.heap.size + 1, 0, none⟩ = some (.string k0) ∧ W.cell? ⟨w.heap.size + 1, 1, none⟩ = some (.string k1) ∧ W.cell? ⟨B, 7, none⟩ = some (.slice la ln lc)) (first | (with_reducible assumption)) (first
            | (go_at_call 12; (refine (HSC.out _ (by assumption)).mono ?_); rintro e V1 ⟨a1, n1, c1, rfl, hs1, hb1, hk1⟩; have hS1 := HCW.out _ hk1)
            | (go_at_call 20; (refine (HRS.out _ (by assumption)).mono ?_); rintro e V2 ⟨a2, n2, c2, rfl, hs2, hb2, hk2⟩; have hS2 := HCW.out _ hk2)
            | (go_at_call 21; (refine (HRN.out _ (by assumption)).mono ?_); rintro e V3 ⟨a3, n3, c3, rfl, hs3, hb3, hk3⟩; have hS3 := HCW.out _ hk3)
            | (go_at_call 22; (refine (HRR.out _ (by assumption)).mono ?_); rintro e V4 ⟨a4, n4, c4, rfl, hs4, hb4, hk4⟩; have hS4 := HCW.out _ hk4)
            | (go_at_call 11; (refine (HSM.out _ _ _ _ (by assumption) (by first | exact hs1 _ (Below.refl _ _) | exact hs1 _ hb2) (by first | exact hs2 _ (Below.refl _ _) | exact hs2 _ hb1) HLS.out.1).mono ?_); rintro e V5 ⟨rfl, hk5⟩; have hS5 := HCW.out _ hk5)
            | (go_at_call 11; (refine (HSM.out _ _ _ _ (by assumption) (by first | exact hs3 _ (Below.refl _ _) | exact hs3 _ hb4) (by first | exact hs4 _ (Below.refl _ _) | exact hs4 _ hb3) HLS.out.2).mono ?_); rintro e V6 ⟨rfl, hk6⟩; have hS6 := HCW.out _ hk6)
            | (go_at_call 9; (refine (HWK.out _ (by assumption)).mono ?_); rintro e V7 ⟨rfl, hk7⟩; have hS7 := HCW.out _ hk7))
          all_goals
            have HV := Lib.hid hk7
            clear hS1 hS2 hS3 hS4 hS5 hS6 hS7 hS0 hS00 hs1 hs2 hs3 hs4 hd0
            go_wp2_with fail
            go_ret
            exact ⟨rfl, HOLD.out.trans (HV.out.mono HOLD.out.size)⟩
end Go.Proofs.YtghpohiinnallaaGreatDoor.Kv

/-
  The arguments of KvPlays, opened: two keys.
-/
namespace Go.Proofs.YtghpohiinnallaaGreatDoor.Kv
open Go Go.RowKit Go.ChangeShapes Go.WideShapes Go.ChangeAt

theorem cellsKeys : Tryz.prog.cellsOf 25 = 2 := by kernel_rfl
section
variable {H : Type} {enc : TypeId × Value → H} {W : World}
set_option maxRecDepth 100000 in
theorem arg_keys {base : Nat} {v : Value} {d : DataW H} {p : List MemPlace} (hv : Value.okWide Tryz.prog W .any base 25 v) (h : DataW.Trod enc Tryz.prog W 0 (fun _ => true) true 25 v d p) :
    ∃ k0 k1 : ByteArray, v = .agg #[.string k0, .string k1] ∧ k0.size ≤ 9223372036854775807 ∧ k1.size ≤ 9223372036854775807 := by
  obtain ⟨cs, rfl, hsz, _⟩ : ∃ cs, v = .agg cs ∧ cs.size = Tryz.prog.cellsOf 25 ∧ Row.okWide Tryz.prog W .any base 25 cs := by
    simpa [Value.okWide, Tryz.underlying25] using hv
  rw [cellsKeys] at hsz
  obtain ⟨l⟩ := cs
  obtain ⟨fuel, hf⟩ := h
  match l, hsz with
  | [c0, c1], _ =>
    obtain ⟨xs, m, _, _, _, hlen, hx⟩ := DataW.trod_array Tryz.underlying25 hf
    match xs, hlen with
    | [y0, y1], _ =>
      have h0 := hx 0 (by omega)
      have h1 := hx 1 (by omega)
      simp only [cellsStr, Value.cells, Nat.zero_mul, Nat.one_mul, List.drop_zero, List.drop_succ_cons, List.take_succ_cons, List.take_zero] at h0 h1
      obtain ⟨x0, e0, _, w0⟩ := DataW.trod_string Tryz.underlying9 (x := y0) (by simpa using h0)
      obtain ⟨x1, e1, _, w1⟩ := DataW.trod_string Tryz.underlying9 (x := y1) (by simpa using h1)
      obtain rfl := List.cons.inj e0 |>.1
      obtain rfl := List.cons.inj e1 |>.1
      unfold maxLen at w0 w1
      exact ⟨x0, x1, rfl, w0, w1⟩
end
end Go.Proofs.YtghpohiinnallaaGreatDoor.Kv
