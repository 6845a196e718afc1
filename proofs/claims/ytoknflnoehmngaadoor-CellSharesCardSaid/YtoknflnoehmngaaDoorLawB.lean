/-
  Walks of the law CellBags.
-/
import Derived.Test.YtoknflnoehmngaaDoorCellTells
import Derived.Test.YtoknflnoehmngaaDoorCellSetD
import Derived.Test.YtoknflnoehmngaaDoorLawO
namespace Go.Proofs.YtoknflnoehmngaaDoor.Cell
open Go Go.RowKit
open Go.Proofs.YtoknflnoehmngaaDoor.Nets (putS rowS Tab)
open Go.Proofs.YtoknflnoehmngaaDoor.Sha (Kept wp_region_kept wp_region_kept_tail quiet_load_row)

theorem ReadsE.turned {w w' : World} {v : Value} {q : List Ent} {mb : Nat} {es : Array MapEntry} {c : Nat} (h : ReadsE w v q) (hg : w.grownBy w' (some mb)) (hm : w.heap[mb]? = some (.map es c)) : ReadsE w' v q := by
  rcases h with h | ⟨h0, b, off, cap, rfl, h3, h4⟩
  · exact .inl h
  · refine .inr ⟨h0, b, off, cap, rfl, by have := hg.size; omega, fun i e hi j x hx => ?_⟩
    have h5 := h4 i e hi j x hx
    refine hg.cell h5 fun e => ?_
    obtain rfl : b = mb := by simpa using e
    exact no_cell_map hm h5
section
variable {w wr w2 w3 w4 : World} {pb mb k : Nat} {G : List Pair} {qv : Value}
theorem find_under (n : ByteArray) (G : List Pair) : Under n G (findS n (G.map (·.1))) := by
  unfold Under findS
  rw [at_map]
  cases at? pn n G with
  | none => exact .inl ⟨rfl, rfl⟩
  | some g => exact .inr ⟨g, rfl, rfl⟩
theorem find_kind (n : ByteArray) (G : List Pair) (hK : ∀ g ∈ G, kOk g.1.v.kind) : (findS n (G.map (·.1))).kind ≠ 0 ↔ (at? pn n G).isSome = true := by
  unfold findS
  rw [at_map]
  cases ha : at? pn n G with
  | none => simp [Val.zero]
  | some g =>
    have h := hK g (at_some pn ha).1
    simp only [Option.map_some, Option.isSome_some, iff_true]
    unfold kOk at h
    omega
theorem find_reads (n : ByteArray) (G : List Pair) (hR : ∀ g ∈ G, Reads w g.1.v.lv g.1.v.ls) : Reads w (findS n (G.map (·.1))).lv (findS n (G.map (·.1))).ls := by
  unfold findS
  rw [at_map]
  cases ha : at? pn n G with
  | none => exact nil_reads w
  | some g => exact hR g (at_some pn ha).1

/-- The bag and the document's list behind some puts. -/
structure BagsG (w : World) (pb mb k : Nat) (G : List Pair) (qv : Value) (wr : World) : Prop where
  bag : BagAt wr pb mb G
  len : G.length ≤ k
  light : ∀ g ∈ G, LightE g.1
  kind : ∀ g ∈ G, kOk g.1.v.kind
  reads : ∀ g ∈ G, Reads w g.1.v.lv g.1.v.ls
  q : ReadsE wr qv (G.map (·.1))
  below : Below w.heap.size w wr
theorem BagsG.on (h : BagsG w pb mb k G qv wr) (hb : Below wr.heap.size wr w2) : BagsG w pb mb k G qv w2 :=
  ⟨h.bag.below hb, h.len, h.light, h.kind, h.reads, h.q.below hb, h.below.trans (hb.mono h.below.size)⟩
theorem kOk_of {e : Ent} (h : okB e = true) : kOk e.v.kind := by
  unfold okB okKind at h
  simp only [Bool.and_eq_true, decide_eq_true_eq] at h
  unfold kOk
  omega
/-- Behind the put: what Set is asked, and what its answer makes. -/
theorem BagsG.next {e : Ent} (h : BagsG w pb mb k G qv wr) (hd : Done wr w3 pb mb G e) (hle : LightE e) (hr : Reads w e.v.lv e.v.ls) (hmb : w.heap.size ≤ mb) :
    ReadsE w3 qv (G.map (·.1)) ∧ Below w.heap.size w w3 ∧ ∀ w4 ov, w4.ownsRow w3.heap.size 32 6 ov (sets Ent.name (okB e) e (G.map (·.1))).length ((sets Ent.name (okB e) e (G.map (·.1))).flatMap entC) → Below w3.heap.size w3 w4 →
      ∃ G' qa qc, ov = .slice qa G'.length qc ∧ BagsG w pb mb (k + 1) G' (.slice qa G'.length qc) w4 := by
  obtain ⟨G', hm, hB', hg⟩ := hd
  obtain ⟨es, c, hmap⟩ := h.bag.map
  have hb3 : Below w.heap.size w w3 := h.below.grown hg h.below.size (fun k hk => by cases hk; exact hmb)
  refine ⟨h.q.turned hg hmap, hb3, fun w4 ov hO hb4 => ?_⟩
  have hq := reads_ownsE hO
  rw [← hm] at hq
  obtain ⟨qa, qc, rfl, _⟩ := hq.shape
  rw [List.length_map] at hq ⊢
  refine ⟨G', qa, qc, rfl, hB'.below hb4, ?_, ?_, ?_, ?_, hq, hb3.trans (hb4.mono hb3.size)⟩
  · have h1 := congrArg List.length hm
    rw [List.length_map] at h1
    have h2 := sets_length Ent.name (okB e) e (G.map (·.1))
    rw [List.length_map] at h2
    have := h.len
    omega
  all_goals try intro g hg'
  · have h1 : g.1 ∈ G'.map (·.1) := List.mem_map_of_mem hg'
    rw [hm] at h1
    rcases sets_mem Ent.name h1 with ⟨_, h2⟩ | h2
    · rw [h2]; exact hle
    · obtain ⟨g0, hg0, e0⟩ := List.mem_map.1 h2
      rw [← e0]; exact h.light g0 hg0
  · have h1 : g.1 ∈ G'.map (·.1) := List.mem_map_of_mem hg'
    rw [hm] at h1
    rcases sets_mem Ent.name h1 with ⟨h0, h2⟩ | h2
    · rw [h2]; exact kOk_of h0
    · obtain ⟨g0, hg0, e0⟩ := List.mem_map.1 h2
      rw [← e0]; exact h.kind g0 hg0
  · have h1 : g.1 ∈ G'.map (·.1) := List.mem_map_of_mem hg'
    rw [hm] at h1
    rcases sets_mem Ent.name h1 with ⟨_, h2⟩ | h2
    · rw [h2]; exact hr
    · obtain ⟨g0, hg0, e0⟩ := List.mem_map.1 h2
      rw [← e0]; exact h.reads g0 hg0
end
theorem new_str (w : World) (s : ByteArray) : ∀ (j : Nat) (u : Value), [Value.string s][j]? = some u → (w.alloc (.cells #[.string s] 9)).cell? ((⟨w.heap.size, 0, none⟩ : Addr).add j) = some u := by
  intro j u h
  have hb := heap_alloc_new w (.cells #[.string s] 9)
  rw [addr_add]
  simp only [World.cell?, hb, Nat.zero_add]
  match j, h with
  | 0, h => simpa using h
  | j + 1, h => simp at h
/-- One text, just laid, appended to a list of the call's own. -/
theorem append_str (w : World) (v : Value) (l : List ByteArray) (s : ByteArray) (B : Nat) (ho : w.ownsRow B 9 1 v l.length (l.map Value.string)) (hl : l.length ≤ 2000) (hB : B ≤ w.heap.size) :
    ∃ v' w', (Builtin.append_ #[28, 28] 28 #[v, .slice (some ⟨w.heap.size, 0, none⟩) 1 1]).run Tryd.prog (w.alloc (.cells #[.string s] 9)) = .ok v' w' ∧
      Hid (w'.ownsRow B 9 1 v' (l ++ [s]).length ((l ++ [s]).map Value.string) ∧ Below B w w') := by
  obtain ⟨i0, hi, hz0, hz1, hz2⟩ := info_parts infoString
  obtain ⟨v', w', hr, h2, h3, h4⟩ := run_append_own (P := Tryd.prog) (w.alloc (.cells #[.string s] 9)) B 28 28 9 i0 _ 1 16 Tryd.underlying28 hi hz0 hz1 hz2 rfl (by decide) v l.length _ (ho.alloc _) ⟨w.heap.size, 0, none⟩ 1 1 [.string s] rfl (new_str w s) (strings_one [s]) (by unfold maxLen; omega) (by omega) (by simp; omega)
  refine ⟨v', w', hr, Lib.hid ⟨?_, ?_⟩⟩
  · rw [List.map_append, List.length_append]; exact h2
  · have h5 : Below B w (w.alloc (.cells #[.string s] 9)) := (Below.refl _ _).alloc hB _
    exact h5.grown h3 (by simp; omega) (fun k hk => (ho.lt k hk).1)
def namesOf (G : List Pair) (m : Nat) : List ByteArray := (G.take m).map pn
theorem namesOf_succ {G : List Pair} {m : Nat} {g : Pair} (h : G[m]? = some g) : namesOf G m ++ [pn g] = namesOf G (m + 1) := by
  unfold namesOf
  rw [List.take_add_one, h]
  simp
theorem namesOf_length {G : List Pair} {m : Nat} (h : m ≤ G.length) : (namesOf G m).length = m := by
  unfold namesOf
  simp
  omega
theorem namesOf_all {G : List Pair} {m : Nat} (h : ¬ m < G.length) : namesOf G m = G.map pn := by
  unfold namesOf
  rw [List.take_of_length_le (by omega)]
theorem same_texts {w W1 W2 : World} {v u : Value} {xs : List ByteArray} {B C : Nat} (hx : W1.ownsRow B 9 1 v xs.length (xs.map Value.string)) (hy : W2.ownsRow C 9 1 u xs.length (xs.map Value.string)) (h1 : Below W1.heap.size W1 w) (h2 : Below W2.heap.size W2 w) (hl : xs.length ≤ 100000) :
    Calls Tryd.prog 13 #[v, u] w fun e w' => e = .returned (.bool true) ∧ Below w.heap.size w w' := by
  have := Nets.same_any v u xs xs w ((reads_owns hx).below h1) ((reads_owns hy).below h2) hl hl
  rw [decide_eq_true rfl] at this
  exact this
theorem tells_found {w w5 : World} {k pb mb : Nat} {G : List Pair} {qv : Value} (n : ByteArray) (hn : n.size ≤ maxLen) (HG : BagsG w pb mb k G qv w5) (W : World) (hb : Below w5.heap.size w5 W) :
    Calls Tryd.prog 12 #[ptr pb, valV (findS n (G.map (·.1))), .string n] W fun r w' => r = .returned (.bool true) ∧ Below W.heap.size W w' := by
  have h1 := HG.bag.below hb
  have h2 := find_under n G
  have h3 := (find_reads n G HG.reads).below (HG.below.trans (hb.mono HG.below.size))
  generalize findS n (G.map (·.1)) = fv at h2 h3 ⊢
  exact tells_any h1 n hn fv h2 h3
theorem find_found {w w5 : World} {k pb mb : Nat} {G : List Pair} {qv : Value} (n : ByteArray) (HG : BagsG w pb mb k G qv w5) (hl : G.length ≤ 40) (W : World) (hb : Below w5.heap.size w5 W) :
    Calls Tryd.prog 10 #[qv, .string n] W fun r w' => r = .returned (valV (findS n (G.map (·.1)))) ∧ Below W.heap.size W w' := by
  have h1 := HG.q.below hb
  have hlen : (G.map (·.1)).length ≤ 1000 := by rw [List.length_map]; omega
  generalize G.map (·.1) = q at *
  exact find_any qv q n W h1 hlen
theorem tells_each {w w5 : World} {k pb mb : Nat} {G : List Pair} {qv : Value} (HG : BagsG w pb mb k G qv w5) (m : Nat) (hm : m < G.length) :
    ∃ e : Ent, (G.map (·.1))[m]? = some e ∧ LightE e ∧ namesOf G m ++ [e.name] = namesOf G (m + 1) ∧ ∀ W, Below w5.heap.size w5 W → Calls Tryd.prog 12 #[ptr pb, valV e.v, .string e.name] W fun r w' => r = .returned (.bool true) ∧ Below W.heap.size W w' := by
  obtain ⟨g, hgk⟩ : ∃ g, G[m]? = some g := ⟨G[m], List.getElem?_eq_getElem hm⟩
  have hg := List.mem_of_getElem? hgk
  have hle := HG.light g hg
  refine ⟨g.1, by rw [List.getElem?_map, hgk]; rfl, hle, namesOf_succ hgk, fun W hb => ?_⟩
  have h1 := HG.bag.below hb
  have h2 : Under (pn g) G g.1.v := .inr ⟨g, at_mem pn HG.bag.rising g hg, rfl⟩
  have h3 := (HG.reads g hg).below (HG.below.trans (hb.mono HG.below.size))
  have h4 : (pn g).size ≤ maxLen := by
    have : (pn g).size ≤ 100 := hle.name
    unfold maxLen; omega
  generalize g.1.v = fv at h2 h3 ⊢
  exact tells_any h1 (pn g) h4 fv h2 h3
theorem shows_both {w w5 : World} {k pb mb : Nat} {G : List Pair} {qv : Value} (HG : BagsG w pb mb k G qv w5) (hl : G.length ≤ 40) (hT : Tab w) :
    ∃ sh : List UInt8, ∀ W, Below w5.heap.size w5 W → (Calls Tryd.prog 15 #[ptr pb] W fun r w' => r = .returned (str sh) ∧ Below W.heap.size W w') ∧
      (Calls Tryd.prog 16 #[qv] W fun r w' => r = .returned (str sh) ∧ Below W.heap.size W w') := by
  refine ⟨showS (G.map (·.1)), fun W hb => ?_⟩
  have hbw := HG.below.trans (hb.mono HG.below.size)
  refine ⟨show_any (HG.bag.below hb) HG.light (hT.below hbw), ?_⟩
  refine refShow_any qv (G.map (·.1)) W (HG.q.below hb) (by rw [List.length_map]; omega) (fun x hx => ?_) (fun x hx => ?_) (fun x hx => ?_)
  · obtain ⟨g, hg, rfl⟩ := List.mem_map.1 hx
    exact HG.light g hg
  · obtain ⟨g, hg, rfl⟩ := List.mem_map.1 hx
    exact HG.kind g hg
  · obtain ⟨g, hg, rfl⟩ := List.mem_map.1 hx
    exact (HG.reads g hg).below hbw
set_option maxRecDepth 100000 in
set_option maxHeartbeats 4000000 in
theorem cellBags_any (v : Value) (es : List Ent) (n : ByteArray) (w : World) (h : ReadsE w v es) (ho : ∀ e ∈ es, OkE w e) (hm : es.length ≤ 9223372036854775807) (hn : n.size ≤ 9223372036854775807) (hT : Tab w) :
    Calls Tryd.prog 3 #[v, .string n] w fun e w' => e = .returned (.bool true) ∧ Below w.heap.size w w' := by
  have HW := Lib.hid (fun W (hW : Below w.heap.size w W) => works_any W (hT.below hW))
  have HT := Lib.hid hT
  have HL := Lib.hid (fun W (hW : Below w.heap.size w W) => lights_any v es W (h.below hW) (fun e he => (ho e he).below hW) hm)
  obtain ⟨a, cap, rfl, hsh⟩ := h.shape
  have HS := Lib.hid hsh
  have HO := Lib.hid ho
  clear h ho hT hsh
  go_enter Tryd.func3, Tryd.ntmps3
  go_wp2_with fail
  refine (new_any w).mono ?_
  rintro e w2 ⟨rfl, hw2⟩
  have hbag : BagAt w2 (w.heap.size + 1) w.heap.size [] := by rw [hw2]; exact made w
  have hbb : Below w.heap.size w w2 := by rw [hw2]; exact ((Below.refl _ _).alloc (Nat.le_refl _) _).alloc (by simp) _
  have HB2 := Lib.hid (And.intro hbag hbb)
  clear hw2 hbag hbb
  cases hli : lightS es
  · go_wp2_with fail
    refine (HL.out w2 HB2.out.2).mono ?_
    rintro e w' ⟨rfl, rfl⟩
    rw [hli]
    go_wp2_with fail
    refine (HW.out w2 HB2.out.2).mono ?_
    rintro e w3 ⟨rfl, hb3⟩
    have HB3 := Lib.hid (HB2.out.2.trans (hb3.mono HB2.out.2.size))
    clear hb3
    go_wp2_with fail
    go_ret
    exact ⟨rfl, HB3.out⟩
  · go_wp2_with fail
    refine (HL.out w2 HB2.out.2).mono ?_
    rintro e w' ⟨rfl, rfl⟩
    rw [hli]
    have HLI := Lib.hid hli
    clear hli HL
    go_wp2_with fail
    go_loopw [6, 7] (fun qv i wr => ∃ (k : Nat) (G : List Pair) (qa : Option Addr) (qc : Nat), k ≤ es.length ∧ k ≤ 40 ∧ i = .int .i64 k ∧ qv = .slice qa G.length qc ∧ BagsG w (w.heap.size + 1) w.heap.size k G (.slice qa G.length qc) wr) (fun _ i _ => es.length - (intOf i).toNat)
    case atStart => exact ⟨0, [], none, 0, Nat.zero_le _, by omega, rfl, rfl, HB2.out.1, Nat.le_refl _, fun g hg => (by cases hg), fun g hg => (by cases hg), fun g hg => (by cases hg), .inl ⟨none, 0, rfl, rfl⟩, HB2.out.2⟩
    case round =>
      obtain ⟨k, G, qa, qc, hk, hk40, rfl, rfl, hG⟩ := hrel
      have HG := Lib.hid hG
      clear hG
      by_cases hlt : k < es.length ∧ k < 40
      · obtain ⟨e, hke⟩ : ∃ e, es[k]? = some e := ⟨es[k], List.getElem?_eq_getElem hlt.1⟩
        obtain ⟨b, off, rfl, h3, hC⟩ := HS.out (by omega)
        have hoe := HO.out e (List.mem_of_getElem? hke)
        have hle := lightE_of (light_at HLI.out hke hlt.2) hoe
        have HRD := Lib.hid (fun W (hW : Below w.heap.size w W) => range_below (hC k e hke) h3 hW)
        have HR := Lib.hid hoe.reads
        have HE := Lib.hid hle
        have hl1 := hlt.1
        have hl2 := hlt.2
        have hGl : G.length ≤ 40 := by have := HG.out.len; omega
        clear hC hle hoe hlt hke
        have HCE : Hid (∀ W, Kept wr W → W.rangeAt b (off + k * 6) [.string e.name, .int .i64 e.v.kind, .string e.v.s, .int .i64 e.v.n, .bool e.v.is, e.v.lv]) := fun W hk => HRD.out W (HG.out.below.trans (hk.below.mono HG.out.below.size))
        have HF : Hid (∀ W, Kept wr W → Calls Tryd.prog 10 #[.slice qa G.length qc, .string e.name] W fun r w' => r = .returned (valV (findS e.name (G.map (·.1)))) ∧ Below W.heap.size W w') := fun W hk => find_any (.slice qa G.length qc) (G.map (·.1)) e.name W (HG.out.q.below hk.below) (by rw [List.length_map]; omega)
        go_wp2_with fail
        refine wp_region_kept_tail 12 (by kernel_rfl) (by kernel_rfl) ?_
        simp only [List.take_succ_cons, List.take_zero, List.drop_succ_cons, List.drop_zero]
        repeat (go_big_quiet_step (exact fun _ => rfl))
        go_big_quiet_want
        refine quiet_load_row 32 (.tmp 36) rfl b (off + k * 6) rfl [.string e.name, .int .i64 e.v.kind, .string e.v.s, .int .i64 e.v.n, .bool e.v.is, e.v.lv] _ (fun w' hk => HCE.out w' hk) Tryd.underlying32 rfl sizeEnt ?_
        go_simp
        go_big_quiet_on
        repeat (go_big_quiet_step (exact fun _ => rfl))
        go_big_quiet_want
        refine quiet_load_str 9 (.tmp 42) rfl ⟨b, off + k * 6, none⟩ rfl (.string e.name) (fun w' hk => HCE.out w' hk 0 _ rfl) Tryd.underlying9 ?_
        go_simp
        go_big_quiet_on
        repeat (go_big_quiet_step ((first | (exact fun _ => rfl) | (intro hk; go_at_call 10; exact hk.call (HF.out _ hk)))))
        refine wpQuiet_nil ?_
        intro W2 hk2
        have hG2 := HG.out.on hk2.below
        have HP := Lib.hid (put_any hG2.bag e (findS e.name (G.map (·.1))) (by have := HE.out.name; unfold maxLen; omega) (by omega) (fun _ => find_kind _ _ hG2.kind) (HR.out.below hG2.below) (by have := HE.out.few; omega))
        have HG2 := Lib.hid hG2
        clear hG2 hk2
        go_wp2_with fail
        refine HP.out.mono ?_
        rintro r w3 ⟨rfl, hd⟩
        obtain ⟨hq3, hb3, hnx⟩ := HG2.out.next hd HE.out HR.out (Nat.le_refl _)
        obtain ⟨c0, c1, c2, c3, c4, c5⟩ := six (HRD.out w3 hb3)
        have HN := Lib.hid hnx
        have HST := Lib.hid (set_any (.slice qa G.length qc) (G.map (·.1)) e w3 hq3 (by rw [List.length_map]; omega) ((rising_map G).2 HG.out.bag.rising))
        clear hd hq3 hb3 hnx
        go_wp2_with fail
        refine HST.out.mono ?_
        rintro r w4 ⟨ov, rfl, hO4, hb4⟩
        obtain ⟨G', qa', qc', rfl, hG'⟩ := HN.out w4 ov hO4 hb4
        have HG' := Lib.hid hG'
        clear hO4 hb4 hG' c0 c1 c2 c3 c4 c5
        go_wp2_with fail
        go_roundw
        case rel => exact ⟨k + 1, G', qa', qc', by omega, by omega, by simp, rfl, HG'.out⟩
        case measure => simp [intOf]; omega
      · have hGl : G.length ≤ 40 := by have := HG.out.len; omega
        obtain ⟨qa0, qc0, hqs, hqq⟩ := HG.out.q.shape
        obtain ⟨rfl, hle, rfl⟩ := Value.slice.inj hqs
        clear hle
        have HQ := Lib.hid hqq
        clear hqq hqs
        obtain ⟨w5, rfl⟩ : ∃ W, W = wr := ⟨wr, rfl⟩
        have HEV := Lib.hid (tells_each HG.out)
        have HFV : Hid (∃ fv : Val, (∀ W, Below w5.heap.size w5 W → Calls Tryd.prog 10 #[.slice qa G.length qc, .string n] W fun r w' => r = .returned (valV fv) ∧ Below W.heap.size W w') ∧
            (∀ W, Below w5.heap.size w5 W → Calls Tryd.prog 12 #[ptr (w.heap.size + 1), valV fv, .string n] W fun r w' => r = .returned (.bool true) ∧ Below W.heap.size W w')) := ⟨_, find_found n HG.out hGl, tells_found n hn HG.out⟩
        obtain ⟨fv, hff, hft⟩ := HFV.out
        have HFF := Lib.hid hff
        have HFT := Lib.hid hft
        obtain ⟨sh, hsh⟩ := shows_both HG.out hGl HT.out
        have HSH := Lib.hid hsh
        clear hff hft hsh HFV
        rcases (show (k < es.length ∧ ¬ k < 40) ∨ ¬ k < es.length by omega) with ⟨h40, h41⟩ | h40
        all_goals
          go_wp2_with fail
          go_loopw [8, 9] (fun nv j w2 => ∃ (m : Nat) (na : Option Addr) (nc : Nat), m ≤ G.length ∧ j = .int .i64 m ∧ nv = .slice na m nc ∧ w2.ownsRow w5.heap.size 9 1 (.slice na m nc) m ((namesOf G m).map Value.string) ∧ Below w5.heap.size w5 w2) (fun _ j _ => G.length - (intOf j).toNat)
          case atStart => exact ⟨0, none, 0, Nat.zero_le _, rfl, rfl, World.ownsRow_nil _ _ _ _, Below.refl _ _⟩
          case round =>
            obtain ⟨m, na, nc, hm', rfl, rfl, hO, hb⟩ := hrel
            have HB := Lib.hid (And.intro hO hb)
            clear hO hb
            by_cases hlt2 : m < G.length
            · obtain ⟨e, he, hle, hns, HTA⟩ := HEV.out m hlt2
              obtain ⟨qb, qo, rfl, hq3, hqc⟩ := HQ.out (by rw [List.length_map]; omega)
              have HRD := Lib.hid (fun W (hW : Below w5.heap.size w5 W) => range_below (hqc m e he) hq3 hW)
              have hsz := HB.out.2.size
              obtain ⟨v1, w6, hr1, hh1⟩ := append_str wr (.slice na m nc) (namesOf G m) e.name w5.heap.size (by rw [namesOf_length hm']; exact HB.out.1) (by rw [namesOf_length hm']; omega) hsz
              have HR1 := Lib.hid hr1
              have hh2 := hh1.out
              rw [hns, namesOf_length (show m + 1 ≤ G.length by omega)] at hh2
              obtain ⟨na', nc', rfl⟩ : ∃ a c, v1 = .slice a (m + 1) c := by
                rcases hh2.1.2 with ⟨hv, h0⟩ | ⟨g, cap, cur, hv, _⟩
                · exact ⟨none, 0, by rw [hv, h0]⟩
                · exact ⟨_, _, hv⟩
              have HB6 := Lib.hid (And.intro hh2.1 (HB.out.2.trans hh2.2))
              obtain ⟨c0, c1, c2, c3, c4, c5⟩ := six (HRD.out wr HB.out.2)
              have HTL := Lib.hid HTA
              clear hqc he hle hns HTA hr1 hh1 hh2 hsz HEV
              go_wp2_with (at_builtin; refine wpList_append_run rfl _ _ 28 rfl _ _ _ rfl rfl HR1.out ?_)
              clear c0 c1 c2 c3 c4 c5
              have HCE : Hid (∀ W, Kept w6 W → W.rangeAt qb (qo + m * 6) [.string e.name, .int .i64 e.v.kind, .string e.v.s, .int .i64 e.v.n, .bool e.v.is, e.v.lv]) := fun W hk => HRD.out W (HB6.out.2.trans (hk.below.mono HB6.out.2.size))
              have HCV : Hid (∀ W, Kept w6 W → W.rangeAt qb (qo + m * 6 + 1) [.int .i64 e.v.kind, .string e.v.s, .int .i64 e.v.n, .bool e.v.is, e.v.lv]) := fun W hk j x hx => by
                have := HCE.out W hk (j + 1) x (by simpa using hx)
                rw [show qo + m * 6 + 1 + j = qo + m * 6 + (j + 1) by omega]
                exact this
              go_wp2_with fail
              refine wp_region_kept (by kernel_rfl) (by kernel_rfl) ?_
              repeat (go_big_quiet_step (exact fun _ => rfl))
              go_big_quiet_want
              refine quiet_load_row 30 (.tmp 71) rfl qb (qo + m * 6 + 1) rfl [.int .i64 e.v.kind, .string e.v.s, .int .i64 e.v.n, .bool e.v.is, e.v.lv] _ (fun w' hk => HCV.out w' hk) Tryd.underlying30 rfl sizeVal ?_
              go_simp
              go_big_quiet_on
              repeat (go_big_quiet_step (exact fun _ => rfl))
              go_big_quiet_want
              refine quiet_load_str 9 (.tmp 76) rfl ⟨qb, qo + m * 6, none⟩ rfl (.string e.name) (fun w' hk => HCE.out w' hk 0 _ rfl) Tryd.underlying9 ?_
              go_simp
              go_big_quiet_on
              repeat (go_big_quiet_step ((first | (exact fun _ => rfl) | (intro hk; go_at_call 12; exact hk.call (HTL.out _ (HB6.out.2.trans (hk.below.mono HB6.out.2.size)))))))
              refine wpQuiet_nil ?_
              intro W2 hk2
              have HB7 := Lib.hid (And.intro (owns_on HB6.out.1 hk2.below) (HB6.out.2.trans (hk2.below.mono HB6.out.2.size)))
              clear hk2
              go_wp2_with fail
              go_roundw
              case rel => exact ⟨m + 1, na', nc', by omega, by simp, rfl, HB7.out.1, HB7.out.2⟩
              case measure => simp [intOf]; omega
            · have hall := namesOf_all hlt2
              have HNM : Hid (wr.ownsRow w5.heap.size 9 1 (.slice na m nc) (G.map pn).length ((G.map pn).map Value.string)) := by
                have := HB.out.1
                rw [hall] at this
                rw [List.length_map, ← show m = G.length by omega]
                exact this
              clear hall
              go_wp2_with fail
              refine (HFF.out wr HB.out.2).mono ?_
              rintro r w6 ⟨rfl, hb6⟩
              have HB6 := Lib.hid (And.intro hb6 (HB.out.2.trans (hb6.mono HB.out.2.size)))
              clear hb6
              go_wp2_with fail
              refine (HFT.out w6 HB6.out.2).mono ?_
              rintro r w7 ⟨rfl, hb7⟩
              have HB7 := Lib.hid (And.intro (HB6.out.1.trans (hb7.mono HB6.out.1.size)) (HB6.out.2.trans (hb7.mono HB6.out.2.size)))
              clear hb7
              go_wp2_with fail
              refine (names_any (HG.out.bag.below HB7.out.2)).mono ?_
              rintro r w8 ⟨nv, rfl, hO8, hb8⟩
              have HN8 : Hid (w8.ownsRow w7.heap.size 9 1 nv (G.map pn).length ((G.map pn).map Value.string)) := by
                rw [List.length_map, List.map_map]
                exact hO8
              have HB8 := Lib.hid (And.intro (HB7.out.1.trans (hb8.mono HB7.out.1.size)) (HB7.out.2.trans (hb8.mono HB7.out.2.size)))
              clear hO8 hb8
              go_wp2_with fail
              refine (same_texts HN8.out HNM.out (Below.refl _ _) HB8.out.1 (by rw [List.length_map]; omega)).mono ?_
              rintro r w9 ⟨rfl, hb9⟩
              have HB9 := Lib.hid (HB8.out.2.trans (hb9.mono HB8.out.2.size))
              clear hb9
              go_wp2_with fail
              refine (HSH.out w9 HB9.out).1.mono ?_
              rintro r w10 ⟨rfl, hb10⟩
              have HB10 := Lib.hid (HB9.out.trans (hb10.mono HB9.out.size))
              clear hb10
              go_wp2_with fail
              refine (HSH.out w10 HB10.out).2.mono ?_
              rintro r w11 ⟨rfl, hb11⟩
              have HB11 := Lib.hid (HG.out.below.trans ((HB10.out.trans (hb11.mono HB10.out.size)).mono HG.out.below.size))
              clear hb11
              go_wp2_with fail
              refine (HW.out w11 HB11.out).mono ?_
              rintro r w12 ⟨rfl, hb12⟩
              have HB12 := Lib.hid (HB11.out.trans (hb12.mono HB11.out.size))
              clear hb12
              go_wp2_with fail
              go_ret
              exact ⟨rfl, HB12.out⟩
end Go.Proofs.YtoknflnoehmngaaDoor.Cell
