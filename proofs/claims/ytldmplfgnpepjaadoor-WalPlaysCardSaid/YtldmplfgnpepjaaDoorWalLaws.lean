/-
  Walks of the laws WalCrash and WalOn.
-/
import Derived.Test.YtldmplfgnpepjaaDoorWalShared
import Derived.ProofKit
import Derived.OpenShut
import Derived.SliceStrings
import Derived.ChangeSame
import Derived.Deep.Slices
import Derived.Deep.Grids
import Derived.Laws.BitsAllLaws

/-
  Walks of the law WalCrash.
-/
namespace Go.Proofs.YtldmplfgnpepjaaDoor.Wal
open Go Go.RowKit
open Go.Proofs.YtldmplfgnpepjaaDoor.Disk
open Go.Proofs.YtldmplfgnpepjaaDoor.Nets (Reads Tab Small bl ba)

theorem same_sym2 {P : Program} {f : FuncId} {args : Array Value} {w : World} {v : Value} (h : Calls P f args w fun e w' => e = .returned v ∧ w = w') : Calls P f args w fun e w' => e = .returned v ∧ w' = w :=
  h.mono fun _ _ ⟨he, hw⟩ => ⟨he, hw.symm⟩
/-- What a crash takes. -/
structure CrashArg where
  at_ : Int
  kv : Value
  ks : List Bool
  torn : Int
abbrev crT : TypeId := 54
structure OkC (w : World) (c : CrashArg) : Prop where
  at1 : -9223372036854775808 ≤ c.at_
  at2 : c.at_ ≤ 9223372036854775807
  reads : ReadsK w c.kv c.ks
  len : c.ks.length ≤ 9223372036854775807
theorem OkC.below {w w' : World} {c : CrashArg} (h : OkC w c) (hb : Below w.heap.size w w') : OkC w' c := ⟨h.at1, h.at2, h.reads.below hb, h.len⟩
/-- The box of a crash, wherever the law has come to. -/
def BoxC (W : World) (g : Nat) (x : Int) (kv : Value) (t : Int) : Prop := W.cell? ⟨g, 0, none⟩ = some (.int .i64 x) ∧ W.cell? ⟨g, 1, none⟩ = some kv ∧ W.cell? ⟨g, 2, none⟩ = some (.int .i64 t)
theorem boxC {w W : World} {g : Nat} {x t : Int} {kv : Value} (h : Lies w g #[.int .i64 x, kv, .int .i64 t] crT) (hb : Below w.heap.size w W) : BoxC W g x kv t :=
  have h2 := h.same (hb.block _ h.lt)
  ⟨h2.cell 0, h2.cell 1, h2.cell 2⟩
section
variable {w w' : World} {k : Wk} {S : St} {L : Wl}
/-- A disk crashed, beneath a log. -/
theorem crashW (hl : Log w k S L) {kv : Value} {ks : List Bool} {torn : Int} (hk : ReadsK w kv ks) (hkl : ks.length ≤ 9223372036854775807) :
    Calls Tryd.prog 27 #[ptr k.d.pb, kv, .int .i64 torn] w fun e w' => e = .returned (.tuple #[]) ∧ Done w k (crashS S ks torn) L w' := by
  refine (crash_any hl.disk kv ks torn hk hkl).mono fun e w' hh => ?_
  obtain ⟨rfl, hL⟩ := hh
  obtain ⟨cv', hl', hs⟩ := hl.left hL
  exact ⟨rfl, _, hl', hs⟩
/-- What was there before a log stays. -/
theorem Done.old {k' : Wk} (hl : Log w k S L) {W0 : World} (h0 : Below W0.heap.size W0 w) (hB : W0.heap.size ≤ k.d.B) (h : StepW w k w' k') : Below W0.heap.size W0 w' :=
  h0.trans (h.fr.below h0.size fun _b hb => Nat.le_trans hB (hl.own_lt hb).2)
end
/-- Behind a crash: the disk has a log of one of the two. -/
structure Back (W0 : World) (pb : Nat) (tv ov : Value) (a b gs : List Grp) (S : St) (h : Nat) (k : Wk) (L : Wl) (w : World) : Prop where
  log : Log w k S L
  has : Has S h gs
  pb : k.d.pb = pb
  one : gs = a ∨ gs = b
  tvR : Rd (ownW k) w tv a.flatten
  ovR : Rd (ownW k) w ov b.flatten
  old : Below W0.heap.size W0 w
  low : W0.heap.size ≤ k.d.B
  few : a.flatten.length ≤ 100000 ∧ b.flatten.length ≤ 100000
  ops : S.ops ≤ 4000
theorem Back.of {W0 w w' : World} {k k' : Wk} {S : St} {L : Wl} {tv ov : Value} {a b gs : List Grp} {ks : List Bool} {torn : Int} {h : Nat} (hl : Log w k S L) (htv : Rd (ownW k) w tv a.flatten) (hov : Rd (ownW k) w ov b.flatten) (hops : S.ops ≤ 4000)
    (hf : a.flatten.length ≤ 100000 ∧ b.flatten.length ≤ 100000) (h0 : Below W0.heap.size W0 w) (hB : W0.heap.size ≤ k.d.B) (hh : Has (crashS S ks torn) h gs) (one : gs = a ∨ gs = b) (hl' : Log w' k' (crashS S ks torn) L) (hst : StepW w k w' k') :
    Back W0 k.d.pb tv ov a b gs (crashS S ks torn) h k' L w' :=
  ⟨hl', hh, hst.pb, one, htv.frame hst.fr (fun _ e => e) hst.own, hov.frame hst.fr (fun _ e => e) hst.own, Done.old hl h0 hB hst, by rw [hst.B]; exact hB, hf, hops⟩
/-- .. opened. -/
structure Opened (W0 : World) (pb : Nat) (tv ov vv : Value) (a b gs : List Grp) (S : St) (h : Nat) (k : Wk) (w : World) : Prop where
  log : Log w k S ⟨h, (framesS gs).length, []⟩
  has : Has S h gs
  pb : k.d.pb = pb
  one : gs = a ∨ gs = b
  tvR : Reads w tv a.flatten
  ovR : Reads w ov b.flatten
  vvR : w.ownsRow W0.heap.size strT 1 vv gs.flatten.length (gs.flatten.map Value.string)
  vvO : ∀ b, vv.ownBlock = some b → ¬ ownW k b
  old : Below W0.heap.size W0 w
  low : W0.heap.size ≤ k.d.B
  few : a.flatten.length ≤ 100000 ∧ b.flatten.length ≤ 100000
  ops : S.ops ≤ 4000
theorem Back.opened {W0 w w' : World} {pb : Nat} {k k' : Wk} {S : St} {L : Wl} {tv ov vv : Value} {a b gs : List Grp} {h : Nat} (hb : Back W0 pb tv ov a b gs S h k L w) (hd : k'.d = k.d) (ho : w'.ownsRow w.heap.size strT 1 vv gs.flatten.length (gs.flatten.map Value.string))
    (hl : Log w' k' S ⟨h, (framesS gs).length, []⟩) (hbl : Below w.heap.size w w') (hn : ∀ b, vv.ownBlock = some b → ¬ ownW k' b) : Opened W0 pb tv ov vv a b gs S h k' w' :=
  ⟨hl, hb.has, by rw [hd]; exact hb.pb, hb.one, hb.tvR.1.below hbl, hb.ovR.1.below hbl, owns_low ho hb.old.size, hn, hb.old.trans (hbl.mono hb.old.size), by rw [hd]; exact hb.low, hb.few, hb.ops⟩
theorem Opened.below {W0 w w' : World} {pb : Nat} {k : Wk} {S : St} {tv ov vv : Value} {a b gs : List Grp} {h : Nat} (ho : Opened W0 pb tv ov vv a b gs S h k w) (hb : Below w.heap.size w w') : Opened W0 pb tv ov vv a b gs S h k w' :=
  ⟨ho.log.below hb, ho.has, ho.pb, ho.one, ho.tvR.below hb, ho.ovR.below hb, Nets.owns_below ho.vvR hb, ho.vvO, ho.old.trans (hb.mono ho.old.size), ho.low, ho.few, ho.ops⟩
set_option maxRecDepth 100000 in
set_option maxHeartbeats 4000000 in
theorem walCrash_any (g0 g1 : Int) (v : Value) (es : List Ak) (c : CrashArg) (w : World) (h : ReadsA w v es) (ho : ∀ e ∈ es, OkA w e) (hm : es.length ≤ 9223372036854775807) (ht : Tab w) (hc : OkC w c)
    (hg1 : -9223372036854775808 ≤ g0 ∧ g0 ≤ 9223372036854775807) (hg2 : -9223372036854775808 ≤ g1 ∧ g1 ≤ 9223372036854775807) :
    Calls Tryd.prog 4 #[.agg #[.int .i64 g0, .int .i64 g1], v, .agg #[.int .i64 c.at_, c.kv, .int .i64 c.torn]] w fun e w' => e = .returned (.bool true) ∧ Below w.heap.size w w' := by
  obtain ⟨va, cap, rfl, hsh⟩ := h.shape
  obtain ⟨cat, kv, ks, torn⟩ := c
  obtain ⟨ka, kc, hkv0, -⟩ := hc.reads.shape
  have hkv : kv = .slice ka ks.length kc := hkv0
  clear hkv0
  subst hkv
  dsimp only
  have hbx : Below w.heap.size w ((w.alloc (.cells #[.int .i64 g0, .int .i64 g1] 22)).alloc (.cells #[.int .i64 cat, (.slice ka ks.length kc), .int .i64 torn] crT)) := boxes _ _
  have hgb : Lies ((w.alloc (.cells #[.int .i64 g0, .int .i64 g1] 22)).alloc (.cells #[.int .i64 cat, (.slice ka ks.length kc), .int .i64 torn] crT)) w.heap.size #[.int .i64 g0, .int .i64 g1] 22 := (Lies.new w _ _).same (Below.heap_alloc _ _ _ (by simp))
  have hcb : Lies ((w.alloc (.cells #[.int .i64 g0, .int .i64 g1] 22)).alloc (.cells #[.int .i64 cat, (.slice ka ks.length kc), .int .i64 torn] crT)) (w.heap.size + 1) #[.int .i64 cat, (.slice ka ks.length kc), .int .i64 torn] crT := new_at (by simp)
  have H0 := Lib.hid (And.intro (h.below hbx) (And.intro (fun e he => (ho e he).below hbx) (And.intro (ht.below hbx) (And.intro (hc.below hbx) (And.intro hbx (And.intro hgb hcb))))))
  have HW := Lib.hid (works_any _ (ht.below hbx))
  have HMD := Lib.hid (fun W => made_any g0 g1 W hg1.1 hg1.2 hg2.1 hg2.2)
  clear h ho ht hc hbx hgb hcb hg1 hg2 hsh
  go_enter Tryd.func4, Tryd.ntmps4
  go_wp2_with fail
  generalize (w.alloc (.cells #[.int .i64 g0, .int .i64 g1] 22)).alloc (.cells #[.int .i64 cat, .slice ka ks.length kc, .int .i64 torn] crT) = W0 at *
  refine HW.out.mono ?_
  rintro e w1 ⟨rfl, hb1⟩
  have hg := H0.out.2.2.2.2.2.1.same (hb1.block _ H0.out.2.2.2.2.2.1.lt)
  have g0' : w1.cell? ⟨w.heap.size, 0, none⟩ = some (.int .i64 g0) := hg.cell 0
  have g1' : w1.cell? ⟨w.heap.size, 1, none⟩ = some (.int .i64 g1) := hg.cell 1
  have H1 := Lib.hid hb1
  have HMD1 := Lib.hid (HMD.out w1)
  clear hb1 hg HMD HW
  go_wp2_with fail
  refine HMD1.out.mono ?_
  rintro e w2 ⟨k, n, z, m, rfl, hmm, h1, h2, h3, h4, hl, hB, hb2⟩
  have hbx : Below w2.heap.size w2 (w2.alloc (.cells (qC (m : Int) 0 ⟨#[]⟩ (.slice none 0 0) (.slice none 0 0) false) qT)) := (Below.refl _ _).alloc (Nat.le_refl _) _
  have hb2' := H1.out.trans ((hb2.trans (hbx.mono hb2.size)).mono H1.out.size)
  have H2 := Lib.hid (And.intro hb2' (And.intro (Made.on (hl.below hbx) h1 h2 h3 h4) (Nat.le_trans H1.out.size hB)))
  have hli := lights_any (.slice va es.length cap) es _ (H0.out.1.below hb2') (fun e he => (H0.out.2.1 e he).below hb2') hm
  have HLI := Lib.hid hli
  clear hmm h1 h2 h3 h4 hl hB hb2 hbx hb2' hli HMD1 g0' g1'
  by_cases hls : lightS es = true
  · rw [hls] at HLI
    obtain ⟨b0, b1, b2⟩ := boxC H0.out.2.2.2.2.2.2 H2.out.1
    go_wp2_with fail
    generalize w2.alloc (.cells (qC (m : Int) 0 ⟨#[]⟩ (.slice none 0 0) (.slice none 0 0) false) 28) = W2 at *
    refine HLI.out.mono ?_
    rintro e w3 ⟨rfl, rfl⟩
    have HCU := Lib.hid (cutW H2.out.2.1.log cat H0.out.2.2.2.1.at1 H0.out.2.2.2.1.at2)
    have HLS := Lib.hid hls
    clear HLI hls
    go_wp2_with fail
    refine HCU.out.mono ?_
    rintro e w4 ⟨rfl, k4, hl4, hst4⟩
    have hb4 := Done.old H2.out.2.1.log H2.out.1 H2.out.2.2 hst4
    have hB4 : W0.heap.size ≤ k4.d.B := by rw [hst4.B]; exact H2.out.2.2
    have hrn := run_any (.slice va es.length cap) es W0 H0.out.1 H0.out.2.1 hm HLS.out H0.out.2.2.1 w4 k4 _ _ ⟨hl4, H2.out.2.1.has.cut cat, rfl⟩ rfl (by show 3 ≤ 3; omega) hb4 hB4
    rw [show k4.pw = k.pw from hst4.pw, show k4.d.pb = k.d.pb from hst4.pb] at hrn
    have HRN := Lib.hid hrn
    have H4 := Lib.hid (And.intro hl4 (And.intro hb4 (And.intro hB4 (show k4.d.pb = k.d.pb from hst4.pb))))
    clear hl4 hst4 hb4 hB4 hrn b0 b1 b2 HCU
    go_wp2_with fail
    refine HRN.out.mono ?_
    rintro e w5 ⟨tv, ov, k5, S5, L5, a, b, rfl, hl5, hst5, htv, hov, hops, hf1, hf2, hcr⟩
    have hb5 := Done.old H4.out.1 H4.out.2.1 H4.out.2.2.1 hst5
    have hB5 : W0.heap.size ≤ k5.d.B := by rw [hst5.B]; exact H4.out.2.2.1
    obtain ⟨b0, b1, b2⟩ := boxC H0.out.2.2.2.2.2.2 hb5
    have hpb5 : k5.d.pb = k.d.pb := hst5.pb.trans H4.out.2.2.2
    have hcw := crashW hl5 (torn := torn) (H0.out.2.2.2.1.reads.below hb5) H0.out.2.2.2.1.len
    rw [hpb5] at hcw
    have HCW := Lib.hid hcw
    have H5 := Lib.hid (fun (w6 : World) (k6 : Wk) (hl6 : Log w6 k6 (crashS S5 ks torn) L5) (hst6 : StepW w5 k5 w6 k6) => (by
      obtain ⟨h, gs, hh, hg⟩ := hcr ks torn
      have := Back.of hl5 htv hov hops ⟨hf1, hf2⟩ hb5 hB5 hh hg hl6 hst6
      rw [hpb5] at this
      exact ⟨h, gs, this⟩ : ∃ h gs, Back W0 k.d.pb tv ov a b gs (crashS S5 ks torn) h k6 L5 w6))
    have HBX := Lib.hid (fun W (hb : Below W0.heap.size W0 W) => boxC H0.out.2.2.2.2.2.2 hb)
    clear hl5 hst5 htv hov hops hf1 hf2 hcr hb5 hB5 hpb5 hcw H4 HRN
    go_wp2_with fail
    refine HCW.out.mono ?_
    rintro e w6 ⟨rfl, k6, hl6, hst6⟩
    obtain ⟨h, gs, hbk⟩ := H5.out w6 k6 hl6 hst6
    clear hl6 hst6 H5 HCW
    generalize crashS S5 ks torn = S6 at *
    have hop := openW hbk.log.disk h gs hbk.has
    rw [hbk.pb] at hop
    have HOP := Lib.hid hop
    have HBK := Lib.hid hbk
    clear hop hbk b0 b1 b2
    go_wp2_with fail
    refine HOP.out.mono ?_
    rintro e w7 ⟨k7, vv, rfl, hkd, hvo, hl7, hpw7, hb7, hn7, -⟩
    have hO7 := HBK.out.opened hkd hvo hl7 hb7 hn7
    clear hkd hvo hl7 hpw7 hb7 hn7 HOP HBK
    have hs1 := Nets.same_any vv tv gs.flatten a.flatten w7 (Nets.reads_owns hO7.vvR) hO7.tvR (by have := hO7.has.flat.1; omega) hO7.few.1
    have HO7 := Lib.hid hO7
    have HS1 := Lib.hid hs1
    clear hs1 hO7
    by_cases he : gs.flatten = a.flatten
    · rw [decide_eq_true he] at HS1
      clear he
      go_wp2_with fail
      refine HS1.out.mono ?_
      rintro e w8 ⟨rfl, hb8⟩
      have HO8 := Lib.hid (HO7.out.below hb8)
      clear hb8 HS1 HO7
      obtain ⟨b0, b1, b2⟩ := HBX.out _ HO8.out.old
      have hcw := crash_any HO8.out.log.disk (.slice ka ks.length kc) ks torn (H0.out.2.2.2.1.reads.below HO8.out.old) H0.out.2.2.2.1.len
      rw [HO8.out.pb] at hcw
      have HCW := Lib.hid hcw
      clear hcw
      go_wp2_with fail
      refine HCW.out.mono ?_
      rintro e w9 ⟨rfl, cv9, hI9, hS9⟩
      have hh9 := HO8.out.has.crash ks torn
      have hop := openW hI9 h gs hh9
      rw [show ({ k7.d with cv := cv9 } : Dk).pb = k.d.pb from HO8.out.pb] at hop
      have HOP := Lib.hid hop
      have hv9 := Fr.owns HO8.out.vvR hS9.fr fun b hb e => HO8.out.vvO b hb (.inl e)
      have hb9 := HO8.out.old.trans (hS9.fr.below HO8.out.old.size fun b hb => Nat.le_trans HO8.out.low (HO8.out.log.disk.own_lt hb).2)
      have H9 := Lib.hid (And.intro hv9 (And.intro hb9 HO8.out.has.flat.1))
      clear hI9 hS9 hh9 hop hv9 hb9 b0 b1 b2 HCW HO8
      go_wp2_with fail
      refine HOP.out.mono ?_
      rintro e w10 ⟨k10, v2, rfl, hkd, hvo, hl10, hpw10, hb10, hn10, -⟩
      have hs3 := Nets.same_any vv v2 gs.flatten gs.flatten w10 (Nets.reads_owns (Nets.owns_below H9.out.1 hb10)) (Nets.reads_owns hvo) (by have := H9.out.2.2; omega) (by have := H9.out.2.2; omega)
      rw [decide_eq_true rfl] at hs3
      have HS3 := Lib.hid hs3
      have H10 := Lib.hid (H9.out.2.1.trans (hb10.mono H9.out.2.1.size))
      clear hkd hvo hl10 hpw10 hb10 hn10 hs3 HOP H9
      go_wp2_with fail
      refine HS3.out.mono ?_
      rintro e w11 ⟨rfl, hb11⟩
      have H11 := Lib.hid (H10.out.trans (hb11.mono H10.out.size))
      clear hb11 HS3
      go_wp2_with fail
      go_ret
      exact ⟨rfl, H0.out.2.2.2.2.1.trans (H11.out.mono H0.out.2.2.2.2.1.size)⟩
    · rw [decide_eq_false he] at HS1
      have hgb : gs = b := by
        rcases HO7.out.one with e | e
        · exact absurd (by rw [e]) he
        · exact e
      subst hgb
      have HF := Lib.hid (HO7.out.has.flat.1)
      clear he
      go_wp2_with fail
      refine HS1.out.mono ?_
      rintro e w8 ⟨rfl, hb8⟩
      have hO8 := HO7.out.below hb8
      have hs2 := Nets.same_any vv ov gs.flatten gs.flatten w8 (Nets.reads_owns hO8.vvR) hO8.ovR (by have := HF.out; omega) (by have := HF.out; omega)
      rw [decide_eq_true rfl] at hs2
      have HS2 := Lib.hid hs2
      have HO8a := Lib.hid hO8
      clear hb8 HS1 HO7 hs2 hO8
      go_wp2_with fail
      refine HS2.out.mono ?_
      rintro e w8' ⟨rfl, hb8⟩
      have HO8 := Lib.hid (HO8a.out.below hb8)
      clear hb8 HS2 HO8a
      obtain ⟨b0, b1, b2⟩ := HBX.out _ HO8.out.old
      have hcw := crash_any HO8.out.log.disk (.slice ka ks.length kc) ks torn (H0.out.2.2.2.1.reads.below HO8.out.old) H0.out.2.2.2.1.len
      rw [HO8.out.pb] at hcw
      have HCW := Lib.hid hcw
      clear hcw
      go_wp2_with fail
      refine HCW.out.mono ?_
      rintro e w9 ⟨rfl, cv9, hI9, hS9⟩
      have hh9 := HO8.out.has.crash ks torn
      have hop := openW hI9 h gs hh9
      rw [show ({ k7.d with cv := cv9 } : Dk).pb = k.d.pb from HO8.out.pb] at hop
      have HOP := Lib.hid hop
      have hv9 := Fr.owns HO8.out.vvR hS9.fr fun b hb e => HO8.out.vvO b hb (.inl e)
      have hb9 := HO8.out.old.trans (hS9.fr.below HO8.out.old.size fun b hb => Nat.le_trans HO8.out.low (HO8.out.log.disk.own_lt hb).2)
      have H9 := Lib.hid (And.intro hv9 (And.intro hb9 HO8.out.has.flat.1))
      clear hI9 hS9 hh9 hop hv9 hb9 b0 b1 b2 HCW HO8
      go_wp2_with fail
      refine HOP.out.mono ?_
      rintro e w10 ⟨k10, v2, rfl, hkd, hvo, hl10, hpw10, hb10, hn10, -⟩
      have hs3 := Nets.same_any vv v2 gs.flatten gs.flatten w10 (Nets.reads_owns (Nets.owns_below H9.out.1 hb10)) (Nets.reads_owns hvo) (by have := H9.out.2.2; omega) (by have := H9.out.2.2; omega)
      rw [decide_eq_true rfl] at hs3
      have HS3 := Lib.hid hs3
      have H10 := Lib.hid (H9.out.2.1.trans (hb10.mono H9.out.2.1.size))
      clear hkd hvo hl10 hpw10 hb10 hn10 hs3 HOP H9
      go_wp2_with fail
      refine HS3.out.mono ?_
      rintro e w11 ⟨rfl, hb11⟩
      have H11 := Lib.hid (H10.out.trans (hb11.mono H10.out.size))
      clear hb11 HS3
      go_wp2_with fail
      go_ret
      exact ⟨rfl, H0.out.2.2.2.2.1.trans (H11.out.mono H0.out.2.2.2.2.1.size)⟩
  · rw [Bool.not_eq_true] at hls
    rw [hls] at HLI
    go_wp2_with fail
    refine HLI.out.mono ?_
    rintro e w3 ⟨rfl, rfl⟩
    go_wp2_with fail
    go_ret
    exact ⟨rfl, H0.out.2.2.2.2.1.trans (H2.out.1.mono H0.out.2.2.2.2.1.size)⟩
end Go.Proofs.YtldmplfgnpepjaaDoor.Wal

/-
  Walks of the law WalOn.
-/
namespace Go.Proofs.YtldmplfgnpepjaaDoor.Wal
open Go Go.RowKit
open Go.Proofs.YtldmplfgnpepjaaDoor.Disk
open Go.Proofs.YtldmplfgnpepjaaDoor.Nets (Reads Tab Small bl ba)

set_option maxRecDepth 100000 in
set_option maxHeartbeats 1000000 in
theorem noise_any (v : Value) (ks : List Bool) (i : Nat) (w : World) (h : ReadsK w v ks) (hm : ks.length ≤ 9223372036854775807) (hi : i ≤ 2) :
    Calls Tryd.prog 28 #[v, .int .i64 i] w fun e w' => ∃ x : ByteArray, e = .returned (.string x) ∧ x.size ≤ 16 ∧ w' = w := by
  obtain ⟨a, cap, rfl, hsh⟩ := h.shape
  have HS := Lib.hid hsh
  clear h hsh
  go_enter Tryd.func28, Tryd.ntmps28
  go_wp2_with fail
  go_loopw [5, 6] (fun s i wr => ∃ (k : Nat) (x : ByteArray), k ≤ ks.length ∧ k ≤ 16 ∧ s = .string x ∧ x.size = k ∧ i = .int .i64 k ∧ wr = w) (fun _ i _ => ks.length - (intOf i).toNat)
  case atStart => exact ⟨0, ⟨#[]⟩, Nat.zero_le _, by omega, rfl, rfl, rfl, rfl⟩
  case round =>
    obtain ⟨k, x, hk, hk2, rfl, hx, rfl, rfl⟩ := hrel
    by_cases hlt : k < ks.length
    · obtain ⟨b, off, rfl, hb, hc⟩ := HS.out (by omega)
      have hck := hc k hlt
      clear hc
      by_cases h8 : k < 8 * i
      · have hd : decide ((k : Int) < 8 * (i : Int)) = true := decide_eq_true (by omega)
        cases hv : ks.getD k false
        · rw [hv] at hck
          clear hv
          go_wp2_with fail
          go_roundw
          case rel => exact ⟨k + 1, _, by omega, by omega, rfl, by rw [ByteArray.size_append, hx]; rfl, by simp, trivial⟩
          case measure => simp [intOf]; omega
        · rw [hv] at hck
          clear hv
          go_wp2_with fail
          go_roundw
          case rel => exact ⟨k + 1, _, by omega, by omega, rfl, by rw [ByteArray.size_append, hx]; rfl, by simp, trivial⟩
          case measure => simp [intOf]; omega
      · have hd : decide ((k : Int) < 8 * (i : Int)) = false := decide_eq_false (by omega)
        go_wp2_with fail
        go_ret
        exact ⟨x, rfl, by omega, rfl⟩
    · go_wp2_with fail
      go_ret
      exact ⟨x, rfl, by omega, rfl⟩
/-- A log that goes on behind a crash, its texts beside it. -/
structure OnAt (W0 : World) (pb px : Nat) (j : Nat) (vv : Value) (w : World) (k : Wk) (S : St) (L : Wl) (gs : List Grp) : Prop where
  log : Log w k S L
  has : Has S L.half gs
  end_ : L.at_ = (framesS gs).length
  wait : L.wait = []
  left : S.left = 0
  full : S.full = false
  ops : S.ops ≤ 4000 + 84 * j
  pb : k.d.pb = pb
  pw : k.pw = px
  vvR : w.ownsRow W0.heap.size strT 1 vv gs.flatten.length (gs.flatten.map Value.string)
  vvO : ∀ b, vv.ownBlock = some b → ¬ ownW k b
  old : Below W0.heap.size W0 w
  low : W0.heap.size ≤ k.d.B
section
variable {W0 w : World} {pb px j : Nat} {vv : Value} {k : Wk} {S : St} {L : Wl} {gs : List Grp}
theorem OnAt.app (h : OnAt W0 pb px j vv w k S L gs) (s : ByteArray) : Calls Tryd.prog 9 #[ptr px, .string s] w fun e w' => e = .returned (.tuple #[]) ∧ Done w k S { L with wait := [s] } w' := by
  have := appendW h.log s (by rw [h.wait]; exact Nat.zero_le _)
  rw [h.pw, h.wait] at this
  exact this
theorem OnAt.sync (h : OnAt W0 pb px j vv w k S L gs) (hj : j ≤ 3) {s : ByteArray} (hs : s.size ≤ 100) {w2 : World} {k2 : Wk} (hl : Log w2 k2 S { L with wait := [s] }) (hst : StepW w k w2 k2) (ht : Tab W0) :
    Calls Tryd.prog 10 #[ptr px] w2 fun e w' => ∃ S' L' x, e = .returned (.int .i64 x) ∧ SyncO S { L with wait := [s] } gs S' L' x ∧ Kin S S' 84 ∧ Done w2 k2 S' L' w' := by
  have hold : Below W0.heap.size W0 w2 := h.old.trans (hst.fr.below h.old.size fun b hb => Nat.le_trans h.low (h.log.own_lt hb).2)
  have := syncW hl gs h.has h.end_ ⟨by simp, fun x hx => by simp at hx; subst hx; omega⟩ (ht.below hold) (by unfold Grd; rw [hst.B]; have := ht.2; have := h.low; omega) (by have := h.ops; omega)
  rw [hst.pw, h.pw] at this
  exact this
/-- Behind a Sync: it was done, and one text is there more, or there was no room. -/
theorem OnAt.synced (h : OnAt W0 pb px j vv w k S L gs) {s : ByteArray} {w2 w3 : World} {k2 : Wk} (hl : Log w2 k2 S { L with wait := [s] }) (hst : StepW w k w2 k2) {S' : St} {L' : Wl} {x : Int} (hs : SyncO S { L with wait := [s] } gs S' L' x) (hk : Kin S S' 84) (hd : Done w2 k2 S' L' w3) :
    (x = 8 ∧ ∃ k3, OnAt W0 pb px (j + 1) vv w3 k3 S' L' gs) ∨
    (x = 0 ∧ ∃ k3 v' w4, (Builtin.append_ #[26, 26] 26 #[vv, .slice (some ⟨w3.heap.size, 0, none⟩) 1 1]).run Tryd.prog (w3.alloc (.cells #[.string s] strT)) = .ok v' w4 ∧ OnAt W0 pb px (j + 1) v' w4 k3 S' L' (gs ++ [[s]])) := by
  obtain ⟨k3, hl3, hst3⟩ := hd
  have hs3 : StepW w k w3 k3 := hst.trans hst3
  have hold : Below W0.heap.size W0 w3 := h.old.trans (hs3.fr.below h.old.size fun b hb => Nat.le_trans h.low (h.log.own_lt hb).2)
  have hv3 := Fr.owns h.vvR hs3.fr fun b hb e => h.vvO b hb e
  have hO3 : ∀ b, vv.ownBlock = some b → ¬ ownW k3 b := fun b hb e => by
    rcases hs3.own b e with e2 | e2
    · exact h.vvO b hb e2
    · have := (h.vvR.lt b hb).2; omega
  have hops : S'.ops ≤ 4000 + 84 * (j + 1) := by have := h.ops; have := hk.ops; omega
  have hleft := hk.left h.left
  have hfull : S'.full = false := by rw [hk.full]; exact h.full
  have hlow : W0.heap.size ≤ k3.d.B := by rw [hs3.B]; exact h.low
  cases hs with
  | none hw => cases hw
  | full _ _ hf => rw [h.full] at hf; cases hf
  | power hl2 => exact absurd h.left hl2
  | room hw hr hS hL =>
    subst hS hL
    exact .inl ⟨rfl, k3, hl3, h.has, h.end_, rfl, hleft, hfull, hops, hs3.pb.trans h.pb, hs3.pw.trans h.pw, hv3, hO3, hold, hlow⟩
  | done hw hr hf hS hL =>
    subst hL
    refine .inr ⟨rfl, k3, ?_⟩
    have hal : Below w3.heap.size w3 (w3.alloc (.cells #[.string s] strT)) := (Below.refl _ _).alloc (Nat.le_refl _) _
    have hfl := h.has.flat.1
    obtain ⟨v', w4, hr4, h1, h2, h3⟩ := append_texts (w3.alloc (.cells #[.string s] strT)) W0.heap.size vv _ gs.flatten [s] (Nets.owns_below hv3 hal) (reads_one (Lies.new w3 #[.string s] strT)) (by omega) (by simp) (Nat.le_trans hold.size hal.size)
    have hF : Fr (fun b => vv.ownBlock = some b) (w3.alloc (.cells #[.string s] strT)) w4 := (Fr.refl _ _).grown h2 fun b hb _ => hb
    have e : (gs ++ [[s]]).flatten = gs.flatten ++ [s] := by rw [List.flatten_append, List.flatten_singleton]
    have hl3' := hl3.below hal
    refine ⟨v', w4, hr4, hl3'.frame hF hO3, hS, rfl, rfl, hleft, hfull, hops, hs3.pb.trans h.pb, hs3.pw.trans h.pw, by rw [e]; exact h1, fun b hb e2 => ?_, (hold.trans (hal.mono hold.size)).trans (hF.below (Nat.le_trans hold.size hal.size) fun b hb => (h.vvR.lt b hb).1), hlow⟩
    rcases h3 b hb with e3 | e3
    · exact hO3 b e3 e2
    · have := (hl3'.own_lt e2).1; omega
end
set_option maxRecDepth 100000 in
set_option maxHeartbeats 4000000 in
theorem walOn_any (g0 g1 : Int) (v : Value) (es : List Ak) (c : CrashArg) (w : World) (h : ReadsA w v es) (ho : ∀ e ∈ es, OkA w e) (hm : es.length ≤ 9223372036854775807) (ht : Tab w) (hc : OkC w c)
    (hg1 : -9223372036854775808 ≤ g0 ∧ g0 ≤ 9223372036854775807) (hg2 : -9223372036854775808 ≤ g1 ∧ g1 ≤ 9223372036854775807) :
    Calls Tryd.prog 5 #[.agg #[.int .i64 g0, .int .i64 g1], v, .agg #[.int .i64 c.at_, c.kv, .int .i64 c.torn]] w fun e w' => e = .returned (.bool true) ∧ Below w.heap.size w w' := by
  obtain ⟨va, cap, rfl, hsh⟩ := h.shape
  obtain ⟨cat, kv, ks, torn⟩ := c
  obtain ⟨ka, kc, hkv0, -⟩ := hc.reads.shape
  have hkv : kv = .slice ka ks.length kc := hkv0
  clear hkv0
  subst hkv
  dsimp only
  have hbx : Below w.heap.size w ((w.alloc (.cells #[.int .i64 g0, .int .i64 g1] 22)).alloc (.cells #[.int .i64 cat, (.slice ka ks.length kc), .int .i64 torn] crT)) := boxes _ _
  have hgb : Lies ((w.alloc (.cells #[.int .i64 g0, .int .i64 g1] 22)).alloc (.cells #[.int .i64 cat, (.slice ka ks.length kc), .int .i64 torn] crT)) w.heap.size #[.int .i64 g0, .int .i64 g1] 22 := (Lies.new w _ _).same (Below.heap_alloc _ _ _ (by simp))
  have hcb : Lies ((w.alloc (.cells #[.int .i64 g0, .int .i64 g1] 22)).alloc (.cells #[.int .i64 cat, (.slice ka ks.length kc), .int .i64 torn] crT)) (w.heap.size + 1) #[.int .i64 cat, (.slice ka ks.length kc), .int .i64 torn] crT := new_at (by simp)
  have H0 := Lib.hid (And.intro (h.below hbx) (And.intro (fun e he => (ho e he).below hbx) (And.intro (ht.below hbx) (And.intro (hc.below hbx) (And.intro hbx (And.intro hgb hcb))))))
  have HW := Lib.hid (works_any _ (ht.below hbx))
  have HMD := Lib.hid (fun W => made_any g0 g1 W hg1.1 hg1.2 hg2.1 hg2.2)
  clear h ho ht hc hbx hgb hcb hg1 hg2 hsh
  go_enter Tryd.func5, Tryd.ntmps5
  go_wp2_with fail
  generalize (w.alloc (.cells #[.int .i64 g0, .int .i64 g1] 22)).alloc (.cells #[.int .i64 cat, .slice ka ks.length kc, .int .i64 torn] crT) = W0 at *
  refine HW.out.mono ?_
  rintro e w1 ⟨rfl, hb1⟩
  have hg := H0.out.2.2.2.2.2.1.same (hb1.block _ H0.out.2.2.2.2.2.1.lt)
  have g0' : w1.cell? ⟨w.heap.size, 0, none⟩ = some (.int .i64 g0) := hg.cell 0
  have g1' : w1.cell? ⟨w.heap.size, 1, none⟩ = some (.int .i64 g1) := hg.cell 1
  have H1 := Lib.hid hb1
  have HMD1 := Lib.hid (HMD.out w1)
  clear hb1 hg HMD HW
  go_wp2_with fail
  refine HMD1.out.mono ?_
  rintro e w2 ⟨k, n, z, m, rfl, hmm, h1, h2, h3, h4, hl, hB, hb2⟩
  have hbx : Below w2.heap.size w2 (w2.alloc (.cells (qC (m : Int) 0 ⟨#[]⟩ (.slice none 0 0) (.slice none 0 0) false) qT)) := (Below.refl _ _).alloc (Nat.le_refl _) _
  have hb2' := H1.out.trans ((hb2.trans (hbx.mono hb2.size)).mono H1.out.size)
  have H2 := Lib.hid (And.intro hb2' (And.intro (Made.on (hl.below hbx) h1 h2 h3 h4) (Nat.le_trans H1.out.size hB)))
  have hli := lights_any (.slice va es.length cap) es _ (H0.out.1.below hb2') (fun e he => (H0.out.2.1 e he).below hb2') hm
  have HLI := Lib.hid hli
  clear hmm h1 h2 h3 h4 hl hB hb2 hbx hb2' hli HMD1 g0' g1'
  by_cases hls : lightS es = true
  · rw [hls] at HLI
    obtain ⟨b0, b1, b2⟩ := boxC H0.out.2.2.2.2.2.2 H2.out.1
    go_wp2_with fail
    generalize w2.alloc (.cells (qC (m : Int) 0 ⟨#[]⟩ (.slice none 0 0) (.slice none 0 0) false) 28) = W2 at *
    refine HLI.out.mono ?_
    rintro e w3 ⟨rfl, rfl⟩
    have HCU := Lib.hid (cutW H2.out.2.1.log cat H0.out.2.2.2.1.at1 H0.out.2.2.2.1.at2)
    have HLS := Lib.hid hls
    clear HLI hls
    go_wp2_with fail
    refine HCU.out.mono ?_
    rintro e w4 ⟨rfl, k4, hl4, hst4⟩
    have hb4 := Done.old H2.out.2.1.log H2.out.1 H2.out.2.2 hst4
    have hB4 : W0.heap.size ≤ k4.d.B := by rw [hst4.B]; exact H2.out.2.2
    have hrn := run_any (.slice va es.length cap) es W0 H0.out.1 H0.out.2.1 hm HLS.out H0.out.2.2.1 w4 k4 _ _ ⟨hl4, H2.out.2.1.has.cut cat, rfl⟩ rfl (by show 3 ≤ 3; omega) hb4 hB4
    rw [show k4.pw = k.pw from hst4.pw, show k4.d.pb = k.d.pb from hst4.pb] at hrn
    have HRN := Lib.hid hrn
    have H4 := Lib.hid (And.intro hl4 (And.intro hb4 (And.intro hB4 (show k4.d.pb = k.d.pb from hst4.pb))))
    clear hl4 hst4 hb4 hB4 hrn b0 b1 b2 HCU
    go_wp2_with fail
    refine HRN.out.mono ?_
    rintro e w5 ⟨tv, ov, k5, S5, L5, a, b, rfl, hl5, hst5, -, -, hops, -, -, hcr⟩
    have hb5 := Done.old H4.out.1 H4.out.2.1 H4.out.2.2.1 hst5
    have hB5 : W0.heap.size ≤ k5.d.B := by rw [hst5.B]; exact H4.out.2.2.1
    obtain ⟨b0, b1, b2⟩ := boxC H0.out.2.2.2.2.2.2 hb5
    have hpb5 : k5.d.pb = k.d.pb := hst5.pb.trans H4.out.2.2.2
    have hcw := crashW hl5 (torn := torn) (H0.out.2.2.2.1.reads.below hb5) H0.out.2.2.2.1.len
    rw [hpb5] at hcw
    have HCW := Lib.hid hcw
    obtain ⟨h, gs, hh, -⟩ := hcr ks torn
    have H5 := Lib.hid (And.intro hl5 (And.intro hb5 (And.intro hB5 (And.intro hpb5 (And.intro hops (And.intro hh (show (crashS S5 ks torn).left = 0 from rfl)))))))
    have HBX := Lib.hid (fun W (hb : Below W0.heap.size W0 W) => boxC H0.out.2.2.2.2.2.2 hb)
    clear hl5 hst5 hops hcr hb5 hB5 hpb5 hcw H4 HRN hh
    go_wp2_with fail
    refine HCW.out.mono ?_
    rintro e w6 ⟨rfl, k6, hl6, hst6⟩
    have hb6 := Done.old H5.out.1 H5.out.2.1 H5.out.2.2.1 hst6
    have hB6 : W0.heap.size ≤ k6.d.B := by rw [hst6.B]; exact H5.out.2.2.1
    have hpb6 : k6.d.pb = k.d.pb := hst6.pb.trans H5.out.2.2.2.1
    have hfi := fillW hl6 false
    rw [hpb6] at hfi
    have HFI := Lib.hid hfi
    have H6 := Lib.hid (And.intro hl6 (And.intro hb6 (And.intro hB6 (And.intro hpb6 (And.intro (show (crashS S5 ks torn).ops ≤ 4000 from H5.out.2.2.2.2.1) H5.out.2.2.2.2.2)))))
    clear hl6 hst6 hb6 hB6 hpb6 hfi b0 b1 b2 HCW H5
    go_wp2_with fail
    refine HFI.out.mono ?_
    rintro e w7 ⟨rfl, k7, hl7, hst7⟩
    have hb7 := Done.old H6.out.1 H6.out.2.1 H6.out.2.2.1 hst7
    have hB7 : W0.heap.size ≤ k7.d.B := by rw [hst7.B]; exact H6.out.2.2.1
    have hpb7 : k7.d.pb = k.d.pb := hst7.pb.trans H6.out.2.2.2.1
    have hh7 := H6.out.2.2.2.2.2.1.fill false
    have hop := openW hl7.disk h gs hh7
    rw [hpb7] at hop
    have HOP := Lib.hid hop
    have H7 := Lib.hid (fun (w8 : World) (k8 : Wk) (vv : Value) (hkd : k8.d = k7.d) (hvo : w8.ownsRow w7.heap.size strT 1 vv gs.flatten.length (gs.flatten.map Value.string)) (hl8 : Log w8 k8 (fillS (crashS S5 ks torn) false) ⟨h, (framesS gs).length, []⟩) (hb8 : Below w7.heap.size w7 w8) (hn8 : ∀ b, vv.ownBlock = some b → ¬ ownW k8 b) =>
      (⟨hl8, hh7, rfl, rfl, H6.out.2.2.2.2.2.2, rfl, H6.out.2.2.2.2.1, by rw [hkd]; exact hpb7, rfl, owns_low hvo hb7.size, hn8, hb7.trans (hb8.mono hb7.size), by rw [hkd]; exact hB7⟩ : OnAt W0 k.d.pb k8.pw 0 vv w8 k8 (fillS (crashS S5 ks torn) false) ⟨h, (framesS gs).length, []⟩ gs))
    clear hl7 hst7 hb7 hB7 hpb7 hh7 hop HFI H6
    go_wp2_with fail
    refine HOP.out.mono ?_
    rintro e w8 ⟨k8, vv, rfl, hkd, hvo, hl8, hpw8, hb8, hn8, -⟩
    have HST := Lib.hid (H7.out w8 k8 vv hkd hvo hl8 hb8 hn8)
    clear hkd hvo hl8 hpw8 hb8 hn8 HOP H7
    generalize fillS (crashS S5 ks torn) false = S8 at *
    go_wp2_with fail
    go_loopw [11, 13, 14, 15] (fun vv i _ _ wr => ∃ (j : Nat) (k' : Wk) (S' : St) (L' : Wl) (gs' : List Grp), j ≤ 3 ∧ i = .int .i64 j ∧ OnAt W0 k.d.pb k8.pw j vv wr k' S' L' gs') (fun _ i _ _ _ => 3 - (intOf i).toNat)
    case atStart => exact ⟨0, k8, S8, _, gs, by omega, rfl, HST.out⟩
    case round =>
      obtain ⟨j, k', S', L', gs', hj, rfl, hM⟩ := hrel
      have HM := Lib.hid hM
      clear hM
      obtain ⟨b0, b1, b2⟩ := HBX.out _ HM.out.old
      by_cases hlt : j < 3
      · have HNS := Lib.hid (noise_any _ ks j wr (H0.out.2.2.2.1.reads.below HM.out.old) H0.out.2.2.2.1.len (by omega))
        go_wp2_with fail
        refine HNS.out.mono ?_
        rintro e w9 ⟨x, rfl, hx, rfl⟩
        have HX := Lib.hid (show ((⟨#[120]⟩ : ByteArray) ++ x).size ≤ 100 by rw [ByteArray.size_append]; show 1 + x.size ≤ 100; omega)
        have HAP := Lib.hid (HM.out.app (⟨#[120]⟩ ++ x))
        clear HNS b0 b1 b2
        go_wp2_with fail
        refine HAP.out.mono ?_
        rintro e w10 ⟨rfl, k10, hl10, hst10⟩
        have hsy := HM.out.sync (by omega) HX.out hl10 hst10 H0.out.2.2.1
        have HSY := Lib.hid hsy
        have H10 := Lib.hid (fun (w11 : World) (S11 : St) (L11 : Wl) (y : Int) (hs : SyncO S' { L' with wait := [⟨#[120]⟩ ++ x] } gs' S11 L11 y) (hk : Kin S' S11 84) (hd : Done w10 k10 S11 L11 w11) => HM.out.synced hl10 hst10 hs hk hd)
        clear hl10 hst10 hsy HAP
        go_wp2_with fail
        refine HSY.out.mono ?_
        rintro e w11 ⟨S11, L11, y, rfl, hs, hk, hd⟩
        rcases H10.out w11 S11 L11 y hs hk hd with ⟨rfl, k11, hN⟩ | ⟨rfl, k11, v', w12, hr, hN⟩
        · have HN := Lib.hid hN
          clear hN hs hk hd H10 HSY HST HM
          go_wp2_with fail
          go_roundw
          case rel => exact ⟨j + 1, k11, S11, L11, gs', by omega, by simp, HN.out⟩
          case measure => simp [intOf]; omega
        · have HN := Lib.hid hN
          have HR := Lib.hid hr
          clear hN hr hs hk hd H10 HSY HST HM
          go_wp2_with (at_builtin; refine wpList_append_run rfl _ _ 26 rfl _ _ _ rfl rfl HR.out ?_)
          go_roundw
          case rel => exact ⟨j + 1, k11, S11, L11, gs' ++ [[⟨#[120]⟩ ++ x]], by omega, by simp, HN.out⟩
          case measure => simp [intOf]; omega
      · have hop := openW HM.out.log.disk L'.half gs' HM.out.has
        rw [HM.out.pb] at hop
        have HOP := Lib.hid hop
        clear hop b0 b1 b2
        go_wp2_with fail
        refine HOP.out.mono ?_
        rintro e w10 ⟨k10, v2, rfl, hkd, hvo, hl10, hpw10, hb10, hn10, -⟩
        have hfl := HM.out.has.flat.1
        have hs3 := Nets.same_any _ v2 gs'.flatten gs'.flatten w10 (Nets.reads_owns (Nets.owns_below HM.out.vvR hb10)) (Nets.reads_owns hvo) (by omega) (by omega)
        rw [decide_eq_true rfl] at hs3
        have HS3 := Lib.hid hs3
        have H10 := Lib.hid (HM.out.old.trans (hb10.mono HM.out.old.size))
        clear hkd hvo hl10 hpw10 hb10 hn10 hs3 HOP hfl HST HM
        go_wp2_with fail
        refine HS3.out.mono ?_
        rintro e w11 ⟨rfl, hb11⟩
        have H11 := Lib.hid (H10.out.trans (hb11.mono H10.out.size))
        clear hb11 HS3
        go_wp2_with fail
        go_ret
        exact ⟨rfl, H0.out.2.2.2.2.1.trans (H11.out.mono H0.out.2.2.2.2.1.size)⟩
  · rw [Bool.not_eq_true] at hls
    rw [hls] at HLI
    go_wp2_with fail
    refine HLI.out.mono ?_
    rintro e w3 ⟨rfl, rfl⟩
    go_wp2_with fail
    go_ret
    exact ⟨rfl, H0.out.2.2.2.2.1.trans (H2.out.1.mono H0.out.2.2.2.2.1.size)⟩
end Go.Proofs.YtldmplfgnpepjaaDoor.Wal

/-
  The laws' arguments, opened: a pair of numbers, a list of acts, a crash.
-/
namespace Go.Proofs.YtldmplfgnpepjaaDoor.Wal
open Go Go.RowKit Go.ChangeShapes Go.WideShapes Go.ChangeAt
open Go.Proofs.YtldmplfgnpepjaaDoor.Disk (ReadsK addr_add)
open Go.Proofs.YtldmplfgnpepjaaDoor.Nets (Reads)

theorem cellsS : Tryd.prog.cellsOf 9 = 1 := by kernel_rfl
theorem cellsI : Tryd.prog.cellsOf 3 = 1 := by kernel_rfl
theorem cellsB : Tryd.prog.cellsOf 4 = 1 := by kernel_rfl
theorem cellsK : Tryd.prog.cellsOf 52 = 1 := by kernel_rfl
theorem cellsL : Tryd.prog.cellsOf 26 = 1 := by kernel_rfl
theorem cellsAct : Tryd.prog.cellsOf 34 = 4 := by kernel_rfl
theorem cellsCr : Tryd.prog.cellsOf 54 = 3 := by kernel_rfl
theorem cellsG : Tryd.prog.cellsOf 22 = 2 := by kernel_rfl
theorem cell_lt {W : World} {b o : Nat} {x : Value} (h : W.cell? ⟨b, o, none⟩ = some x) : b < W.heap.size := World.block_lt_of_cell? W _ h

section
variable {H : Type} {enc : TypeId × Value → H} {W : World}
/-- A list of bools, as it is read: its shape, and what it reads as. -/
theorem open_keep {fuel : Nat} {cs : List Value} {x : DataW H × List MemPlace} (hf : DataW.trod enc Tryd.prog W 0 (fun _ => true) true fuel 52 cs = some x) :
    ∃ a len cap ks, cs = [.slice a len cap] ∧ ReadsK W (.slice a len cap) ks ∧ ks.length ≤ 9223372036854775807 := by
  rcases Go.Deep.open_bools Tryd.underlying52 Tryd.underlying4 cellsB hf with ⟨rfl, _⟩ | ⟨a, len, cap, F, rfl, _, hl, hm, _, hx⟩
  · exact ⟨none, 0, 0, [], rfl, .inl ⟨none, 0, rfl, rfl⟩, by simp⟩
  · by_cases h0 : len = 0
    · subst h0
      exact ⟨_, _, _, [], rfl, .inl ⟨_, _, rfl, rfl⟩, by simp⟩
    · obtain ⟨b, off, spot⟩ := a
      have hspot : spot = none := by simpa [Addr.add] using World.cell?_spot (hx 0 (by omega))
      subst hspot
      have hc : ∀ i, i < cap → W.cell? ⟨b, off + i, none⟩ = some (.bool (F i)) := fun i hi => by rw [← addr_add]; exact hx i hi
      have hlen : ((List.range len).map F).length = len := by simp
      refine ⟨_, _, _, (List.range len).map F, rfl, .inr ⟨by omega, b, off, cap, by rw [hlen], cell_lt (hc 0 (by omega)), fun i hi => ?_⟩, by unfold maxLen at hm; omega⟩
      rw [hlen] at hi
      rw [hc i (by omega)]
      simp [List.getD_eq_getElem?_getD, hi]
/-- A list of texts, as it is read: its shape, and what it reads as. -/
theorem open_list {fuel : Nat} {cs : List Value} {x : DataW H × List MemPlace} (hf : DataW.trod enc Tryd.prog W 0 (fun _ => true) true fuel 26 cs = some x) :
    ∃ a len cap ss, cs = [.slice a len cap] ∧ Reads W (.slice a len cap) ss ∧ (∀ s ∈ ss, s.size ≤ 9223372036854775807) ∧ ss.length ≤ 9223372036854775807 := by
  rcases open_strings Tryd.underlying26 Tryd.underlying9 cellsS hf with ⟨rfl, _⟩ | ⟨a, len, cap, ss, rfl, _, hl, hm, hz, _, hcell, hws⟩
  · exact ⟨none, 0, 0, [], rfl, .inl ⟨none, 0, rfl, rfl⟩, by simp, by simp⟩
  · simp only [if_true] at hz
    by_cases h0 : len = 0
    · subst h0
      exact ⟨_, _, _, [], rfl, .inl ⟨_, _, rfl, rfl⟩, by simp, by simp⟩
    · obtain ⟨b, off, spot⟩ := a
      have hspot : spot = none := by simpa [Addr.add] using World.cell?_spot (hcell 0 (by omega))
      subst hspot
      have hc : ∀ i, i < ss.length → W.cell? ⟨b, off + i, none⟩ = some (.string (ss.getD i ByteArray.empty)) := fun i hi => by rw [← addr_add]; exact hcell i hi
      have ht : ∀ i, i < len → (ss.take len).getD i ByteArray.empty = ss.getD i ByteArray.empty := fun i hi => by
        rw [List.getD_eq_getElem?_getD, List.getD_eq_getElem?_getD, List.getElem?_take, if_pos hi]
      have hl2 : (ss.take len).length = len := by simp; omega
      refine ⟨_, _, _, ss.take len, rfl, .inr ⟨by omega, b, off, cap, by rw [hl2], by omega, hm, cell_lt (hc 0 (by omega)), fun i hi => ?_⟩, fun s hs => ?_, by unfold maxLen at hm; omega⟩
      · rw [hl2] at hi
        rw [ht i hi]
        exact hc i (by omega)
      · have := hws s (List.mem_of_mem_take hs)
        unfold maxLen at this
        exact this
theorem trod_struct4 {t : TypeId} {f0 f1 f2 f3 : Field} {fuel : Nat} {cs : List Value} {x : DataW H × List MemPlace} (ht : Tryd.prog.underlying t = some (.struct #[f0, f1, f2, f3])) (h : DataW.trod enc Tryd.prog W 0 (fun _ => true) true fuel t cs = some x) :
    ∃ y0 y1 y2 y3 n, cs.length = Tryd.prog.cellsOf t ∧ DataW.trod enc Tryd.prog W 0 (fun _ => true) true n f0.type ((cs.drop f0.offset).take (Tryd.prog.cellsOf f0.type)) = some y0 ∧
      DataW.trod enc Tryd.prog W 0 (fun _ => true) true n f1.type ((cs.drop f1.offset).take (Tryd.prog.cellsOf f1.type)) = some y1 ∧ DataW.trod enc Tryd.prog W 0 (fun _ => true) true n f2.type ((cs.drop f2.offset).take (Tryd.prog.cellsOf f2.type)) = some y2 ∧
      DataW.trod enc Tryd.prog W 0 (fun _ => true) true n f3.type ((cs.drop f3.offset).take (Tryd.prog.cellsOf f3.type)) = some y3 := by
  obtain ⟨xs, n, _, rfl, hl, hlen, hf⟩ := DataW.trod_struct ht h
  match xs, hlen with
  | [y0, y1, y2, y3], _ => exact ⟨y0, y1, y2, y3, n, hl, by simpa using hf 0 f0 rfl, by simpa using hf 1 f1 rfl, by simpa using hf 2 f2 rfl, by simpa using hf 3 f3 rfl⟩
theorem trod_struct3 {t : TypeId} {f0 f1 f2 : Field} {fuel : Nat} {cs : List Value} {x : DataW H × List MemPlace} (ht : Tryd.prog.underlying t = some (.struct #[f0, f1, f2])) (h : DataW.trod enc Tryd.prog W 0 (fun _ => true) true fuel t cs = some x) :
    ∃ y0 y1 y2 n, cs.length = Tryd.prog.cellsOf t ∧ DataW.trod enc Tryd.prog W 0 (fun _ => true) true n f0.type ((cs.drop f0.offset).take (Tryd.prog.cellsOf f0.type)) = some y0 ∧
      DataW.trod enc Tryd.prog W 0 (fun _ => true) true n f1.type ((cs.drop f1.offset).take (Tryd.prog.cellsOf f1.type)) = some y1 ∧ DataW.trod enc Tryd.prog W 0 (fun _ => true) true n f2.type ((cs.drop f2.offset).take (Tryd.prog.cellsOf f2.type)) = some y2 := by
  obtain ⟨xs, n, _, rfl, hl, hlen, hf⟩ := DataW.trod_struct ht h
  match xs, hlen with
  | [y0, y1, y2], _ => exact ⟨y0, y1, y2, n, hl, by simpa using hf 0 f0 rfl, by simpa using hf 1 f1 rfl, by simpa using hf 2 f2 rfl⟩
set_option maxRecDepth 100000 in
/-- The four cells of an act. -/
theorem open_act {fuel : Nat} {cs : List Value} {x : DataW H × List MemPlace} (hf : DataW.trod enc Tryd.prog W 0 (fun _ => true) true fuel 34 cs = some x) : ∃ a : Ak, cs = aC a ∧ OkA W a := by
  obtain ⟨y0, y1, y2, y3, n, hl, h0, h1, h2, h3⟩ := trod_struct4 Tryd.underlying34 hf
  rw [cellsAct] at hl
  match cs, hl with
  | [c0, c1, c2, c3], _ =>
    simp only [cellsI, cellsB, cellsS, cellsL, List.drop_zero, List.drop_succ_cons, List.take_succ_cons, List.take_zero] at h0 h1 h2 h3
    obtain ⟨k, e0, _, _⟩ := DataW.trod_int Tryd.underlying3 h0
    obtain ⟨s, e1, _, w1⟩ := DataW.trod_string Tryd.underlying9 h1
    obtain ⟨a, len, cap, ss, e2, hr, hz, hn⟩ := open_list h2
    obtain ⟨is, e3, _⟩ := DataW.trod_bool Tryd.underlying4 h3
    obtain rfl := List.cons.inj e0 |>.1
    obtain rfl := List.cons.inj e1 |>.1
    obtain rfl := List.cons.inj e2 |>.1
    obtain rfl := List.cons.inj e3 |>.1
    exact ⟨⟨k, s, .slice a len cap, ss, is⟩, rfl, (by unfold maxLen at w1; show s.size ≤ _; omega), hr, hz, hn⟩
theorem aC_length (a : Ak) : (aC a).length = 4 := rfl
set_option maxRecDepth 100000 in
theorem arg_acts {base : Nat} {v : Value} {d : DataW H} {p : List MemPlace} (hv : Value.okWide Tryd.prog W .any base 23 v) (h : DataW.Trod enc Tryd.prog W 0 (fun _ => true) true 23 v d p) :
    ∃ es, ReadsA W v es ∧ (∀ e ∈ es, OkA W e) ∧ es.length ≤ 9223372036854775807 := by
  obtain ⟨a0, len, cap, rfl⟩ := okWide_slice Tryd.underlying23 hv
  obtain ⟨fuel, hf⟩ := h
  rcases Go.Deep.open_slice Tryd.underlying23 hf with ⟨e, _⟩ | ⟨a, l, c, m, n, D, Pl, e, _, hl, hm, hmm, _, hel⟩
  · have e2 : Value.slice a0 len cap = .slice none 0 0 := by simpa [Value.cells] using e
    rw [e2]
    exact ⟨[], .inl ⟨none, 0, rfl, rfl⟩, by simp, by simp⟩
  · have e2 : Value.slice a0 len cap = .slice (some a) l c := by simpa [Value.cells] using e
    rw [e2]
    simp only [if_true] at hmm
    subst hmm
    rw [cellsAct] at hel
    by_cases h0 : l = 0
    · subst h0
      exact ⟨[], .inl ⟨_, _, rfl, rfl⟩, by simp, by simp⟩
    · have hone : ∀ i, i < l → ∃ e : Ak, W.cells? 0 (a.add (i * 4)) 4 = some (aC e) ∧ OkA W e := fun i hi => by
        obtain ⟨cs', h1, h2⟩ := hel i (by omega)
        obtain ⟨e, rfl, h3⟩ := open_act h2
        exact ⟨e, h1, h3⟩
      haveI : Inhabited Ak := ⟨⟨0, ⟨#[]⟩, .slice none 0 0, [], false⟩⟩
      obtain ⟨f, hfe⟩ := Go.Deep.choose_lt hone
      have hcell : ∀ i, i < l → ∀ j x, (aC (f i))[j]? = some x → W.cell? ((a.add (i * 4)).add j) = some x := fun i hi j x hx => by
        have hh := World.cells?_some (hfe i hi).1
        rw [hh.2.2 j (by rw [← aC_length (f i)]; exact (List.getElem?_eq_some_iff.1 hx).1)]
        exact hx
      obtain ⟨b, off, spot⟩ := a
      have hspot : spot = none := by simpa [Addr.add] using World.cell?_spot (hcell 0 (by omega) 0 _ rfl)
      subst hspot
      refine ⟨(List.range l).map f, .inr ⟨by simp; omega, b, off, m, by simp, ?_, fun i e hi j x hx => ?_⟩, fun e he => ?_, by unfold maxLen at hm; simp; omega⟩
      · have := hcell 0 (by omega) 0 _ rfl
        rw [addr_add, addr_add] at this
        exact cell_lt this
      · obtain ⟨hi2, rfl⟩ : i < l ∧ f i = e := by
          rw [List.getElem?_map, Option.map_eq_some_iff] at hi
          obtain ⟨y, hy, rfl⟩ := hi
          obtain ⟨h1, h2⟩ := List.getElem?_eq_some_iff.1 hy
          rw [List.getElem_range] at h2
          subst h2
          exact ⟨by simpa using h1, rfl⟩
        have := hcell i hi2 j x hx
        rw [addr_add, addr_add] at this
        exact this
      · obtain ⟨i, hi, rfl⟩ := List.mem_map.1 he
        exact (hfe i (List.mem_range.1 hi)).2
set_option maxRecDepth 100000 in
theorem arg_crash {base : Nat} {v : Value} {d : DataW H} {p : List MemPlace} (hv : Value.okWide Tryd.prog W .any base 54 v) (h : DataW.Trod enc Tryd.prog W 0 (fun _ => true) true 54 v d p) :
    ∃ c : CrashArg, v = .agg #[.int .i64 c.at_, c.kv, .int .i64 c.torn] ∧ OkC W c := by
  obtain ⟨cs, rfl, hsz, _⟩ : ∃ cs, v = .agg cs ∧ cs.size = Tryd.prog.cellsOf 54 ∧ Row.okWide Tryd.prog W .any base 54 cs := by
    simpa [Value.okWide, Tryd.underlying54] using hv
  rw [cellsCr] at hsz
  obtain ⟨l⟩ := cs
  obtain ⟨fuel, hf⟩ := h
  match l, hsz with
  | [c0, c1, c2], _ =>
    obtain ⟨y0, y1, y2, n, _, h0, h1, h2⟩ := trod_struct3 Tryd.underlying54 hf
    simp only [cellsI, cellsK, Value.cells, List.drop_zero, List.drop_succ_cons, List.take_succ_cons, List.take_zero] at h0 h1 h2
    obtain ⟨x, e0, _, w0⟩ := DataW.trod_int Tryd.underlying3 h0
    obtain ⟨a, len, cap, ks, e1, hr, hn⟩ := open_keep h1
    obtain ⟨t, e2, _, _⟩ := DataW.trod_int Tryd.underlying3 h2
    obtain rfl := List.cons.inj e0 |>.1
    obtain rfl := List.cons.inj e1 |>.1
    obtain rfl := List.cons.inj e2 |>.1
    have b0 := bounds_i64 w0
    exact ⟨⟨x, .slice a len cap, ks, t⟩, rfl, b0.1, (by show x ≤ _; have := b0.2; omega), hr, hn⟩
set_option maxRecDepth 100000 in
theorem arg_geo {base : Nat} {v : Value} {d : DataW H} {p : List MemPlace} (hv : Value.okWide Tryd.prog W .any base 22 v) (h : DataW.Trod enc Tryd.prog W 0 (fun _ => true) true 22 v d p) :
    ∃ g0 g1, v = .agg #[.int .i64 g0, .int .i64 g1] ∧ (-9223372036854775808 ≤ g0 ∧ g0 ≤ 9223372036854775807) ∧ (-9223372036854775808 ≤ g1 ∧ g1 ≤ 9223372036854775807) := by
  obtain ⟨cs, rfl, hsz, _⟩ : ∃ cs, v = .agg cs ∧ cs.size = Tryd.prog.cellsOf 22 ∧ Row.okWide Tryd.prog W .any base 22 cs := by
    simpa [Value.okWide, Tryd.underlying22] using hv
  rw [cellsG] at hsz
  obtain ⟨l⟩ := cs
  obtain ⟨fuel, hf⟩ := h
  match l, hsz with
  | [c0, c1], _ =>
    obtain ⟨xs, m, _, _, _, hlen, hx⟩ := DataW.trod_array Tryd.underlying22 hf
    match xs, hlen with
    | [y0, y1], _ =>
      have h0 := hx 0 (by omega)
      have h1 := hx 1 (by omega)
      simp only [cellsI, Value.cells, Nat.zero_mul, Nat.one_mul, List.drop_zero, List.drop_succ_cons, List.take_succ_cons, List.take_zero] at h0 h1
      obtain ⟨x0, e0, _, w0⟩ := DataW.trod_int Tryd.underlying3 (x := y0) (by simpa using h0)
      obtain ⟨x1, e1, _, w1⟩ := DataW.trod_int Tryd.underlying3 (x := y1) (by simpa using h1)
      obtain rfl := List.cons.inj e0 |>.1
      obtain rfl := List.cons.inj e1 |>.1
      have b0 := bounds_i64 w0
      have b1 := bounds_i64 w1
      exact ⟨x0, x1, rfl, ⟨b0.1, by omega⟩, ⟨b1.1, by omega⟩⟩
end
end Go.Proofs.YtldmplfgnpepjaaDoor.Wal
