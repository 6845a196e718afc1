/-
  Messages in memory, and among the arguments; strings.IndexAny.
-/
import Derived.Test.YtegbkfloiiilfaaGreatDoorMgPlain
import Derived.Test.YtegbkfloiiilfaaGreatDoorMgHeadB
import Derived.Test.YtegbkfloiiilfaaGreatDoorMgHeadA
import Derived.OwnWalk
import Derived.Test.YtegbkfloiiilfaaGreatDoorMgShelf
import Derived.Test.YtegbkfloiiilfaaGreatDoorMgGlyph
import Derived.Laws.Runes
import Derived.Laws.RangeString
import Derived.WalkMore
import Derived.Test.YtegbkfloiiilfaaGreatDoorMgHeadL

/-
  Messages in memory: two cells, the fields' list and the body; loads of lists in a quiet walk; a message as a result.
-/
namespace Go.Proofs.YtegbkfloiiilfaaGreatDoor.Msg
open Go Go.RowKit
open Go.Proofs.YtegbkfloiiilfaaGreatDoor.Head

abbrev msT : TypeId := 25
abbrev rmT : TypeId := 31
abbrev msV (v : Value) (b : ByteArray) : Value := .agg #[v, .string b]
abbrev boxM (t : TypeId) (v : Value) (b : ByteArray) : Obj := .cells #[v, .string b] t
def msC (v : Value) (b : ByteArray) : List Value := [v, .string b]
theorem sizeMs : (Tryz.prog.info? msT).map (·.size) = some 2 := by kernel_rfl
theorem sizeRm : (Tryz.prog.info? rmT).map (·.size) = some 2 := by kernel_rfl
theorem twoM {w : World} {g o : Nat} {v : Value} {b : ByteArray} (h : w.rangeAt g o (msC v b)) : w.cell? ⟨g, o, none⟩ = some v ∧ w.cell? ⟨g, o + 1, none⟩ = some (.string b) := ⟨h 0 _ rfl, h 1 _ rfl⟩
theorem new_boxM (w : World) (t : TypeId) (v : Value) (b : ByteArray) : (w.alloc (boxM t v b)).rangeAt w.heap.size 0 (msC v b) := by
  intro j u h
  have hb := heap_alloc_new w (boxM t v b)
  simp only [World.cell?, hb, Nat.zero_add]
  match j, h with
  | 0, h => exact h
  | 1, h => exact h
  | j + 2, h => simp [msC] at h
/-- One operation of a quiet walk: a list. -/
theorem quiet_load_sl {P : Program} {C : World → Prop} {o : Oper} {a : Act} {K : Act → Prop} (ty t : TypeId) (x : Operand) (ho : o.op = .load ty x) (p : Addr) (hx : a.eval x = .pointer (some p)) (v : Value)
    (hc : ∀ w, C w → w.cell? p = some v) (hu : P.underlying ty = some (.slice t)) (h : K (a.put o.dst v)) : o.quiet P a C K :=
  ⟨_, fun w hw => by
    have h1 := hc w hw
    unfold Oper.quietAt execOp
    simp [ho, hx, Instr.loadAt, Instr.sureAddr, loadVar, isAgg, run_underlying hu, h1]
    exact ⟨rfl, rfl⟩, h⟩
/-- A message as a result: two cells that the call has laid. -/
abbrev fill2 (W : World) (g : Nat) (v : Value) (b : ByteArray) : World := (W.setCell ⟨g, 0, none⟩ v).setCell ⟨g, 1, none⟩ (.string b)
structure Res2 (w : World) (g : Nat) (t : TypeId) (W : World) : Prop where
  lies : ∃ a n c b, Lies W g #[.slice a n c, .string b] t
  low : w.heap.size ≤ g
  below : Below w.heap.size w W
theorem Res2.start (w : World) (t : TypeId) (a : Option Addr) (n c : Nat) (b : ByteArray) : Res2 w w.heap.size t (w.alloc (boxM t (.slice a n c) b)) := ⟨⟨a, n, c, b, Lies.new w _ _⟩, Nat.le_refl _, (Below.refl _ _).alloc (Nat.le_refl _) _⟩
theorem Res2.on {w W W' : World} {g : Nat} {t : TypeId} (h : Res2 w g t W) (hb : Below W.heap.size W W') : Res2 w g t W' := by
  obtain ⟨a, n, c, b, hx⟩ := h.lies
  exact ⟨⟨a, n, c, b, hx.same (hb.block _ hx.lt)⟩, h.low, h.below.trans (hb.mono h.below.size)⟩
theorem Res2.fill {w W : World} {g : Nat} {t : TypeId} (h : Res2 w g t W) (v : Value) (b : ByteArray) : Lies (fill2 W g v b) g #[v, .string b] t ∧ Below w.heap.size w (fill2 W g v b) := by
  obtain ⟨a, n, c, x, hx⟩ := h.lies
  refine ⟨?_, (h.below.setCell (p := ⟨g, 0, none⟩) h.low _).setCell (p := ⟨g, 1, none⟩) h.low _⟩
  exact (hx.set 0 _).set 1 _
theorem Res2.cells {w W : World} {g : Nat} {t : TypeId} (h : Res2 w g t W) : ∃ a n c b, W.cell? ⟨g, 0, none⟩ = some (.slice a n c) ∧ W.cell? ⟨g, 1, none⟩ = some (.string b) ∧ W.frozen? ⟨g, 0, none⟩ = false ∧ W.frozen? ⟨g, 1, none⟩ = false := by
  obtain ⟨a, n, c, b, hx⟩ := h.lies
  exact ⟨a, n, c, b, hx.cell 0, hx.cell 1, hx.free 0, hx.free 1⟩
theorem owns_low {w : World} {B B' : Nat} {t : TypeId} {z n : Nat} {v : Value} {xs : List Value} (h : w.ownsRow B t z v n xs) (hB : B' ≤ B) : w.ownsRow B' t z v n xs := by
  refine ⟨h.1, ?_⟩
  rcases h.2 with h2 | ⟨g, cap, cur, h3, h4, h5⟩
  · exact .inl h2
  · exact .inr ⟨g, cap, cur, h3, Nat.le_trans hB h4, h5⟩
/-- A list that lies above a box stays as it is when the box is filled. -/
theorem owns_fill {w : World} {B g : Nat} {t : TypeId} {z n : Nat} {v u : Value} {xs : List Value} {b : ByteArray} (h : w.ownsRow B t z v n xs) (hg : g < B) : (fill2 w g u b).ownsRow B t z v n xs :=
  owns_put (owns_put h (fun e => by have := (h.lt g e).1; omega)) (fun e => by have := (h.lt g e).1; omega)
end Go.Proofs.YtegbkfloiiilfaaGreatDoor.Msg

/-
  strings.IndexAny at the signs that end a first word: strings.IndexRune at any sign, and the walk over short texts.
-/
namespace Go.Proofs.YtegbkfloiiilfaaGreatDoor.Msg
open Go Go.RowKit
open Go.Proofs.YtegbkfloiiilfaaGreatDoor.Head
open Go.Proofs.YtegbkfloiiilfaaGreatDoor.Sha (Kept wp_region_kept)
open Go.Proofs.YtegbkfloiiilfaaGreatDoor.Glyph (Sc AtHand at_hand dec_two dec_enc enc_one enc_high byt byt_nat drop_ne at4)

abbrev endC : ByteArray := ⟨#[59, 32, 9]⟩
def endN (r : Nat) : Bool := r == 59 || r == 32 || r == 9
theorem endN_byte (c : UInt8) : endN c.toNat = ends c := by
  have h : ∀ n, n < 256 → endN n = ends (UInt8.ofNat n) := fun n hn => by
    have := all256 (p := fun n => endN n == ends (UInt8.ofNat n)) (by decide +kernel) n hn
    exact beq_iff_eq.1 this
  rw [h _ c.toNat_lt]
  simp
theorem endN_index (r : Nat) (h : r < 128) : decide (0 ≤ Lib.indexByte endC.data.toList ((r : Int).toNat.toUInt8)) = endN r := by
  have := all256 (p := fun n => decide (0 ≤ Lib.indexByte endC.data.toList ((n : Int).toNat.toUInt8)) == endN n || decide (128 ≤ n)) (by decide +kernel) r (by omega)
  rw [Bool.or_eq_true, beq_iff_eq, decide_eq_true_eq] at this
  rcases this with h2 | h2
  · exact h2
  · omega
theorem endN_high {r : Nat} (h : 128 ≤ r) : endN r = false := by
  unfold endN
  rw [Bool.or_eq_false_iff, Bool.or_eq_false_iff]
  refine ⟨⟨?_, ?_⟩, ?_⟩ <;> (rw [beq_eq_false_iff_ne]; omega)
set_option maxRecDepth 100000 in
set_option maxHeartbeats 1000000 in
theorem vrune_any (r : Nat) (h : Sc r) (w : World) : Calls Tryz.prog 108 #[.int .i32 r] w fun e w' => e = .returned (.bool true) ∧ w = w' := by
  unfold Sc at h
  rcases h with h | ⟨h1, h2⟩
  · have d1 : (0 : Int) ≤ (r : Int) := by omega
    have d2 : (r : Int) < 55296 := by omega
    go_enter Tryz.func108, Tryz.ntmps108
    go_wp2_with fail
    go_ret
    exact ⟨rfl, rfl⟩
  · have d1 : (0 : Int) ≤ (r : Int) := by omega
    have d2 : ¬ (r : Int) < 55296 := by omega
    have d3 : (57343 : Int) < (r : Int) := by omega
    have d4 : (r : Int) ≤ 1114111 := by omega
    go_enter Tryz.func108, Tryz.ntmps108
    go_wp2_with fail
    go_ret
    exact ⟨rfl, rfl⟩
def IrPost (r : Nat) (w : World) (e : Ending) (w' : World) : Prop := ∃ x : Int, e = .returned (.int .i64 x) ∧ decide (0 ≤ x) = endN r ∧ Below w.heap.size w w'
theorem below_iter (w : World) (s : ByteArray) (p : Nat) : Below w.heap.size w (w.iter s p) := (Below.refl _ w).alloc (Nat.le_refl _) _
set_option maxRecDepth 100000 in
set_option maxHeartbeats 4000000 in
theorem irune_bad (w : World) : Calls Tryz.prog 83 #[.string endC, .int .i32 65533] w (IrPost 65533 w) := by
  go_enter Tryz.func83, Tryz.ntmps83
  go_wp2_with fail
  go_loopw [] (fun wr => ∃ p, p ≤ 3 ∧ wr = w.iter endC p) (fun wr => 3 - wr.iterPos w.heap.size)
  case atStart => exact ⟨0, by omega, rfl⟩
  case round =>
    obtain ⟨p, hp, rfl⟩ := hrel
    have hpos : ∀ j, (w.iter endC j).iterPos w.heap.size = j := fun j => by simp only [World.iterPos, World.iter_heap]
    by_cases hp3 : p = 3
    · subst hp3
      have hnx := run_next_end (P := Tryz.prog) w endC 3
      go_wp2_with fail
      go_ret
      exact ⟨-1, rfl, by rw [endN_high (by omega)]; rfl, below_iter _ _ _⟩
    · have hlt : p < endC.size := by show p < 3; omega
      have h8 : ∀ q, (h : q < endC.size) → (endC[q]'h).toNat < 128 := by decide
      have h128 := h8 p hlt
      have hnx := fun ty => run_next_ascii (P := Tryz.prog) w endC p ty hlt h128
      have hne : (((endC[p]'hlt).toNat : Int) == 65533) = false := by rw [beq_eq_false_iff_ne]; omega
      generalize ((endC[p]'hlt).toNat : Int) = c at *
      go_wp2_with fail
      go_roundw
      case rel => exact ⟨p + 1, by omega, rfl⟩
      case measure => rw [hpos, hpos]; omega
theorem index_high (s : ByteArray) (c : UInt8) (hs : ∀ b ∈ s.data.toList, b.toNat < 128) (hc : 128 ≤ c.toNat) : Lib.indexByte s.data.toList (((c.toNat : Int)).toNat.toUInt8) = -1 := by
  have e : ((c.toNat : Int)).toNat.toUInt8 = c := by simp
  rw [e]
  have hge := Lib.indexByte_ge s.data.toList c
  by_cases h : 0 ≤ Lib.indexByte s.data.toList c
  · have := Lib.contains_iff_indexByte s.data.toList c
    rw [decide_eq_true h, List.contains_iff_mem] at this
    have := hs c this
    omega
  · omega
set_option maxRecDepth 100000 in
set_option maxHeartbeats 4000000 in
theorem irune_high (r : Nat) (hs : Sc r) (h1 : 128 ≤ r) (h2 : r ≠ 65533) (w : World) : Calls Tryz.prog 83 #[.string endC, .int .i32 r] w (IrPost r w) := by
  have hv : Utf8.valid (r : Int) = true := by
    rw [validRune_eq]
    unfold Sc at hs
    exact decide_eq_true (by omega)
  have hcv : ∀ W : World, (convert 21 9 (.int .i32 (r : Int))).run Tryz.prog W = .ok (.string (Utf8.encode (r : Int))) W := fun W => run_convert_int_string W _ _ _ _ (by rw [Tryz.underlying21]; rfl) Tryz.underlying9
  obtain ⟨e1, e2, e3⟩ := encode_facts r hv (by omega)
  have HV := Lib.hid (fun W => vrune_any r hs W)
  have d1 : (0 : Int) ≤ (r : Int) := by omega
  have d2 : ¬ (r : Int) < 128 := by omega
  have d3 : ((r : Int) == 65533) = false := by rw [beq_eq_false_iff_ne]; omega
  have HX : Hid (∀ W, Below w.heap.size w W → IrPost r w (.returned (.int .i64 (-1))) W) := Lib.hid (fun W hb => ⟨-1, rfl, by rw [endN_high h1]; rfl, hb⟩)
  clear hs hv h1 h2
  generalize Utf8.encode (r : Int) = x at *
  rcases (by omega : x.size = 4 ∨ x.size = 2 ∨ x.size = 3) with hz | hz | hz
  · go_enter Tryz.func83, Tryz.ntmps83
    go_wp2_with fail
    refine (HV.out _).mono ?_
    rintro e w1 ⟨rfl, rfl⟩
    go_wp2_with fail
    go_step3
    go_wp2_with fail
    go_loopw [9, 10] (fun i _ wr => i = .int .i64 3 ∧ wr = w) (fun _ _ _ => 0)
    case atStart => exact ⟨by simp, rfl⟩
    case round =>
      obtain ⟨rfl, rfl⟩ := hrel
      go_wp2_with fail
      rw [Exit.noGoto_ret]
      go_ret
      exact HX.out _ (Below.refl _ _)
  · have hx : ∀ h : 1 < x.size, 128 ≤ (x[1]'h).toNat := by
      intro h
      have := e3 (by omega)
      simp only [hz] at this
      exact this
    have hlt : 1 < x.size := by omega
    have hx1 := hx hlt
    have hlc : 1 < endC.size := by decide
    have hne : (((endC[1]'hlc).toNat : Int) != ((x[1]'hlt).toNat : Int)) = true := by
      rw [bne_iff_ne, show (endC[1]'hlc).toNat = 32 from rfl]
      omega
    have HI : Hid (∀ W, Calls Tryz.prog 107 #[.string (endC.extract 2 3), .int .u8 ((x[1]'hlt).toNat : Int)] W fun e w' => e = .returned (.int .i64 (-1)) ∧ W = w') := Lib.hid (fun W => by
      have := Tryz.strings_IndexByte (endC.extract 2 3) ((x[1]'hlt).toNat : Int) W
      rw [index_high _ _ (by decide) hx1] at this
      exact this.mono fun e w' h => ⟨h.1, h.2.symm⟩)
    clear hx e3
    go_enter Tryz.func83, Tryz.ntmps83
    go_wp2_with fail
    refine (HV.out _).mono ?_
    rintro e w1 ⟨rfl, rfl⟩
    go_wp2_with fail
    go_step3
    go_wp2_with fail
    go_loopw [9, 10] (fun i _ wr => i = .int .i64 1 ∧ wr = w) (fun _ _ _ => 0)
    case atStart => exact ⟨by simp, rfl⟩
    case round =>
      obtain ⟨rfl, rfl⟩ := hrel
      go_wp2_with fail
      go_step3
      go_wp2_with fail
      go_quiet (fail)
      go_wp2_with fail
      refine wp_region_kept (by kernel_rfl) (by kernel_rfl) ?_
      repeat (go_big_quiet_step ((first | (exact fun _ => rfl) | (intro hk; go_at_call 107; exact hk.call_same (HI.out _)))))
      refine wpQuiet_nil ?_
      intro W2 hk2
      go_wp2_with fail
      rw [Exit.noGoto_ret]
      go_ret
      exact HX.out _ ((below_drewN (Below.refl _ _) _).trans hk2.below)
  · have hx : ∀ h : 2 < x.size, 128 ≤ (x[2]'h).toNat := by
      intro h
      have := e3 (by omega)
      simp only [hz] at this
      exact this
    have hlt : 2 < x.size := by omega
    have hx1 := hx hlt
    have hlc : 2 < endC.size := by decide
    have hne : (((endC[2]'hlc).toNat : Int) != ((x[2]'hlt).toNat : Int)) = true := by
      rw [bne_iff_ne, show (endC[2]'hlc).toNat = 9 from rfl]
      omega
    have HI : Hid (∀ W, Calls Tryz.prog 107 #[.string (endC.extract 3 3), .int .u8 ((x[2]'hlt).toNat : Int)] W fun e w' => e = .returned (.int .i64 (-1)) ∧ W = w') := Lib.hid (fun W => by
      have := Tryz.strings_IndexByte (endC.extract 3 3) ((x[2]'hlt).toNat : Int) W
      rw [index_high _ _ (by decide) hx1] at this
      exact this.mono fun e w' h => ⟨h.1, h.2.symm⟩)
    clear hx e3
    go_enter Tryz.func83, Tryz.ntmps83
    go_wp2_with fail
    refine (HV.out _).mono ?_
    rintro e w1 ⟨rfl, rfl⟩
    go_wp2_with fail
    go_step3
    go_wp2_with fail
    go_loopw [9, 10] (fun i _ wr => i = .int .i64 2 ∧ wr = w) (fun _ _ _ => 0)
    case atStart => exact ⟨by simp, rfl⟩
    case round =>
      obtain ⟨rfl, rfl⟩ := hrel
      go_wp2_with fail
      go_step3
      go_wp2_with fail
      go_quiet (fail)
      go_wp2_with fail
      refine wp_region_kept (by kernel_rfl) (by kernel_rfl) ?_
      repeat (go_big_quiet_step ((first | (exact fun _ => rfl) | (intro hk; go_at_call 107; exact hk.call_same (HI.out _)))))
      refine wpQuiet_nil ?_
      intro W2 hk2
      go_wp2_with fail
      rw [Exit.noGoto_ret]
      go_ret
      exact HX.out _ ((below_drewN (Below.refl _ _) _).trans hk2.below)
theorem irune_any (r : Nat) (hs : Sc r) (w : World) : Calls Tryz.prog 83 #[.string endC, .int .i32 r] w (IrPost r w) := by
  by_cases h1 : r < 128
  · refine (Tryz.strings_IndexRune_ascii endC (r : Int) w (by omega) (by omega)).mono ?_
    rintro e w' ⟨rfl, rfl⟩
    exact ⟨_, rfl, endN_index r h1, Below.refl _ _⟩
  · by_cases h2 : r = 65533
    · subst h2
      exact irune_bad w
    · exact irune_high r hs (by omega) h2 w

/-! Short texts, sign by sign. -/
/-- The signs behind a place: one that ends a word, or bytes none of which does. -/
theorem head_piece {v : List UInt8} {p k : Nat} (hk : headW v = v.take p ++ headW (v.drop p)) (hp : ∀ c ∈ (v.drop p).take k, ends c = false) : headW v = v.take (p + k) ++ headW (v.drop (p + k)) := by
  have e : v.drop p = (v.drop p).take k ++ v.drop (p + k) := by
    conv => lhs; rw [← List.take_append_drop k (v.drop p)]
    rw [List.drop_drop]
  have h2 : headW ((v.drop p).take k ++ v.drop (p + k)) = (v.drop p).take k ++ headW (v.drop (p + k)) := by
    unfold headW
    rw [List.takeWhile_append_of_pos]
    intro c hc
    rw [hp c hc]
    rfl
  conv => lhs; rw [hk, e, h2]
  rw [← List.append_assoc, List.take_add]
theorem sign_at (s : ByteArray) (p r k : Nat) (hp : p < s.size) (H : AtHand s p r k) : Sc r ∧ (endN r = true → (∃ c, (bl s)[p]? = some c ∧ ends c = true)) ∧ (endN r = false → ∀ c ∈ ((bl s).drop p).take k, ends c = false) := by
  have hne : (bl s).drop p ≠ [] := drop_ne s p hp
  have hd : Glyph.dec ((bl s).drop p) = (r, k) := H.2.1
  have hcons := drop_cons s p hp
  have hget : (bl s)[p]? = some s[p] := by rw [List.getElem?_eq_getElem (by rw [bl_len]; exact hp)]; rfl
  rcases dec_two _ hne with ⟨r', t, hsc, he⟩ | ⟨hbad, hat⟩
  · rw [he, dec_enc hsc] at hd
    obtain ⟨rfl, rfl⟩ := Prod.mk.inj hd
    by_cases h1 : r' < 128
    · rw [enc_one h1] at he ⊢
      rw [hcons] at he
      obtain ⟨e1, _⟩ := List.cons.inj he
      have hn : endN r' = ends s[p] := by
        rw [← endN_byte, e1, byt_nat r' (by omega)]
      refine ⟨hsc, fun h => ⟨_, hget, by rw [← hn]; exact h⟩, fun h c hc => ?_⟩
      rw [hcons, List.length_singleton, List.take_succ_cons, List.take_zero] at hc
      obtain rfl := List.mem_singleton.1 hc
      rw [← hn]
      exact h
    · have hn := endN_high (r := r') (by omega)
      refine ⟨hsc, fun h => (by rw [hn] at h; cases h), fun _ c hc => ?_⟩
      rw [he, List.take_left] at hc
      have := enc_high (r := r') (by omega) (by unfold Sc at hsc; omega) c hc
      rw [← endN_byte]
      exact endN_high this
  · rw [hbad] at hd
    obtain ⟨rfl, rfl⟩ := Prod.mk.inj hd
    refine ⟨by unfold Sc; omega, fun h => (by cases h), fun _ c hc => ?_⟩
    rw [hcons, List.take_succ_cons, List.take_zero] at hc
    obtain rfl := List.mem_singleton.1 hc
    have h4 : at4 ((bl s).drop p) 0 = s[p].toNat := by
      rw [hcons]
      rfl
    rw [← endN_byte]
    exact endN_high (by omega)
def WordAt (v : List UInt8) (x : Int) : Prop := (x = -1 ∧ headW v = v) ∨ ∃ k : Nat, x = (k : Int) ∧ k ≤ v.length ∧ headW v = v.take k
set_option maxRecDepth 100000 in
set_option maxHeartbeats 4000000 in
theorem idx_short (s : ByteArray) (w : World) (h8 : s.size ≤ 8) : Calls Tryz.prog 49 #[.string s, .string endC] w fun e w' => ∃ x : Int, e = .returned (.int .i64 x) ∧ WordAt (bl s) x ∧ Below w.heap.size w w' := by
  have HS : Hid (Calls Tryz.prog 84 #[.int .i64 s.size] w fun e w' => e = .returned (.bool false) ∧ w = w') := Lib.hid ((Tryz.strings_shouldUseASCIISet (s.size : Int) w).mono fun e w' ⟨h1, h2⟩ => ⟨by rw [h1, decide_eq_false (by omega)], h2.symm⟩)
  have HI : Hid ((w.iter s 0).heap[w.heap.size]? = some (.stringIter s 0) ∧ Below w.heap.size w (w.iter s 0) ∧ headW (bl s) = (bl s).take 0 ++ headW ((bl s).drop 0)) := Lib.hid ⟨World.iter_heap w s 0, below_iter w s 0, rfl⟩
  have HR := Lib.hid (fun r W (h : Sc r) => irune_any r h W)
  unfold IrPost at HR
  go_enter Tryz.func49, Tryz.ntmps49
  go_wp2_with fail
  refine HS.out.mono ?_
  rintro e w1 ⟨rfl, rfl⟩
  go_wp2_with fail
  go_loopw [] (fun wr => ∃ p, p ≤ s.size ∧ Hid (wr.heap[w.heap.size]? = some (.stringIter s p) ∧ Below w.heap.size w wr ∧ headW (bl s) = (bl s).take p ++ headW ((bl s).drop p))) (fun wr => s.size - wr.iterPos w.heap.size)
  case atStart => exact ⟨0, Nat.zero_le _, HI⟩
  case round =>
    clear HI
    obtain ⟨p, hps, hI⟩ := hrel
    have hit := hI.out.1
    by_cases hp : p < s.size
    · obtain ⟨r, k, H, hd, hk, hk2, hr⟩ := at_hand s p hp
      have hnx : ∀ ty, (Instr.next (.pointer (some ⟨w.heap.size, 0, none⟩)) true ty).run Tryz.prog wr = .ok (.tuple #[.bool true, .int .i64 p, .int .i32 r]) (wr.iterAt w.heap.size s (p + k)) := fun ty => by
        have := Lib.run_next_any_at (P := Tryz.prog) wr w.heap.size s p ty hit hp
        rw [hd] at this
        exact this
      obtain ⟨q1, q2, q3⟩ := sign_at s p r k hp H.out
      have HRr := Lib.hid (HR.out r (wr.iterAt w.heap.size s (p + k)) q1)
      have hit2 := Lib.hid (Lib.iterAt_heap wr w.heap.size s p (p + k) hit)
      have hb2 := Lib.hid (Lib.below_iterAt hI.out.2.1 (k := w.heap.size) (by omega) s (p + k))
      have hm : Hid (wr.iterPos w.heap.size = p) := Lib.hid (by simp only [World.iterPos, hit])
      have hlt2 : Hid (w.heap.size < (wr.iterAt w.heap.size s (p + k)).heap.size) := Lib.hid (by
        rcases Nat.lt_or_ge w.heap.size (wr.iterAt w.heap.size s (p + k)).heap.size with h | h
        · exact h
        · have := hit2.out
          rw [Array.getElem?_eq_none h] at this
          cases this)
      clear hit hd q1
      cases he : endN r
      · have HN := Lib.hid (head_piece hI.out.2.2 (q3 he))
        rw [he] at HRr
        clear q2 q3 he
        go_wp2_with fail
        refine HRr.out.mono ?_
        rintro e w2 ⟨x, rfl, hx, hb⟩
        have hx0 := of_decide_eq_false hx
        have HB2 := Lib.hid (hb2.out.trans (hb.mono hb2.out.size))
        have HT2 : Hid (w2.heap[w.heap.size]? = some (.stringIter s (p + k))) := Lib.hid ((hb.block _ hlt2.out).trans hit2.out)
        clear hb hx
        go_wp2_with fail
        go_roundw
        case rel => exact ⟨p + k, hk2, Lib.hid ⟨HT2.out, HB2.out, HN.out⟩⟩
        case measure =>
          rw [hm.out]
          simp only [World.iterPos, HT2.out]
          omega
      · have HE : Hid (WordAt (bl s) (p : Int)) := Lib.hid (by
          obtain ⟨c, h1, h2⟩ := q2 he
          exact .inr ⟨p, rfl, by rw [bl_len]; exact hps, head_here h1 hI.out.2.2 h2⟩)
        rw [he] at HRr
        clear q2 q3 he
        go_wp2_with fail
        refine HRr.out.mono ?_
        rintro e w2 ⟨x, rfl, hx, hb⟩
        have hx0 := of_decide_eq_true hx
        have HB2 := Lib.hid (hb2.out.trans (hb.mono hb2.out.size))
        clear hb hx
        go_wp2_with fail
        go_ret
        exact ⟨_, rfl, HE.out, HB2.out⟩
    · have hnx : ∀ ty, (Instr.next (.pointer (some ⟨w.heap.size, 0, none⟩)) true ty).run Tryz.prog wr = _ := fun ty => Lib.run_next_end_at wr w.heap.size s p ty hit hp
      have HE : Hid (WordAt (bl s) (-1)) := Lib.hid (.inl ⟨rfl, head_all (by rw [bl_len]; omega) hI.out.2.2⟩)
      clear hit
      go_wp2_with fail
      go_ret
      exact ⟨_, rfl, HE.out, hI.out.2.1⟩
theorem idx_any (s : ByteArray) (w : World) (hs : s.size ≤ 1000000) : Calls Tryz.prog 49 #[.string s, .string endC] w fun e w' => ∃ x : Int, e = .returned (.int .i64 x) ∧ WordAt (bl s) x ∧ Below w.heap.size w w' := by
  by_cases h8 : s.size ≤ 8
  · exact idx_short s w h8
  · refine (Tryz.strings_IndexAny_long s endC w (by decide) (by omega) (by omega) (by decide) (fun j b h => ?_)).mono ?_
    · have hm : b ∈ endC.data.toList := List.mem_of_getElem? h
      have : ∀ b ∈ endC.data.toList, b.toNat < 128 := by decide
      exact this b hm
    · rintro e w' ⟨rfl, hb⟩
      refine ⟨_, rfl, ?_, hb⟩
      have := any_word (bl s)
      exact this
end Go.Proofs.YtegbkfloiiilfaaGreatDoor.Msg

/-
  A message among the arguments, opened.
-/
namespace Go.Proofs.YtegbkfloiiilfaaGreatDoor.Msg
open Go Go.RowKit Go.ChangeShapes Go.WideShapes Go.ChangeAt
open Go.Proofs.YtegbkfloiiilfaaGreatDoor.Head

theorem cellsSl : Tryz.prog.cellsOf 29 = 1 := by kernel_rfl
theorem cellsMs : Tryz.prog.cellsOf 31 = 2 := by kernel_rfl
section
variable {H : Type} {enc : TypeId × Value → H} {W : World}
set_option maxRecDepth 100000 in
/-- A list of fields, in its one cell. -/
theorem open_fds {fuel : Nat} {cs : List Value} {x : DataW H × List MemPlace} (hf : DataW.trod enc Tryz.prog W 0 (fun _ => true) true fuel 29 cs = some x) : ∃ v q, cs = [v] ∧ ReadsF W v q := by
  rcases Go.Deep.open_slice Tryz.underlying29 hf with ⟨e, _⟩ | ⟨a, l, c, m, n, D, Pl, e, _, hl, hm, hmm, _, hel⟩
  · exact ⟨.slice none 0 0, [], e, .inl ⟨none, 0, rfl, rfl⟩⟩
  · refine ⟨.slice (some a) l c, ?_⟩
    simp only [if_true] at hmm
    subst hmm
    rw [cellsFd] at hel
    by_cases h0 : l = 0
    · subst h0
      exact ⟨[], e, .inl ⟨_, _, rfl, rfl⟩⟩
    · have hone : ∀ i, i < l → ∃ e : Head.Fd, W.cells? 0 (a.add (i * 2)) 2 = some (fdC e) := fun i hi => by
        obtain ⟨cs', h1, h2⟩ := hel i (by omega)
        obtain ⟨e, rfl⟩ := open_fd h2
        exact ⟨e, h1⟩
      haveI : Inhabited Head.Fd := ⟨⟨⟨#[]⟩, ⟨#[]⟩⟩⟩
      obtain ⟨f, hfe⟩ := Go.Deep.choose_lt hone
      have hcell : ∀ i, i < l → ∀ j x, (fdC (f i))[j]? = some x → W.cell? ((a.add (i * 2)).add j) = some x := fun i hi j x hx => by
        have hh := World.cells?_some (hfe i hi)
        rw [hh.2.2 j (by rw [← tkC_length (f i)]; exact (List.getElem?_eq_some_iff.1 hx).1)]
        exact hx
      obtain ⟨b, off, spot⟩ := a
      have hspot : spot = none := by simpa [Addr.add] using World.cell?_spot (hcell 0 (by omega) 0 _ rfl)
      subst hspot
      refine ⟨(List.range l).map f, e, .inr ⟨b, off, m, by simp, by simp; omega, by unfold maxLen at hm; omega, ?_, fun i e hi j x hx => ?_⟩⟩
      · have := hcell 0 (by omega) 0 _ rfl
        rw [addr_add, addr_add] at this
        exact cell_lt this
      · obtain ⟨hi2, rfl⟩ : i < l ∧ f i = e := by
          rw [List.getElem?_map, Option.map_eq_some_iff] at hi
          obtain ⟨y, hy, rfl⟩ := hi
          obtain ⟨h1, h2⟩ := List.getElem?_eq_some_iff.1 hy
          rw [List.getElem_range] at h2
          subst h2
          exact ⟨by simpa using h1, rfl⟩
        have := hcell i hi2 j x hx
        rw [addr_add, addr_add] at this
        exact this
set_option maxRecDepth 100000 in
theorem arg_msg {base : Nat} {v : Value} {d : DataW H} {p : List MemPlace} (hv : Value.okWide Tryz.prog W .any base 31 v) (h : DataW.Trod enc Tryz.prog W 0 (fun _ => true) true 31 v d p) :
    ∃ u q b, v = msV u b ∧ ReadsF W u q := by
  obtain ⟨cs, rfl, hsz, _⟩ : ∃ cs, v = .agg cs ∧ cs.size = Tryz.prog.cellsOf 31 ∧ Row.okWide Tryz.prog W .any base 31 cs := by
    simpa [Value.okWide, Tryz.underlying31] using hv
  obtain ⟨l⟩ := cs
  obtain ⟨fuel, hf⟩ := h
  have hf' : DataW.trod enc Tryz.prog W 0 (fun _ => true) true fuel 31 l = some (d, p) := by simpa [Value.cells] using hf
  obtain ⟨y0, y1, n, _, hl, h0, h1⟩ := trod_struct2 Tryz.underlying31 hf'
  rw [cellsMs] at hl
  match l, hl with
  | [c0, c1], _ =>
    simp only [cellsStr, cellsSl, List.drop_zero, List.drop_succ_cons, List.take_succ_cons, List.take_zero] at h0 h1
    obtain ⟨u, q, e0, hr⟩ := open_fds h0
    obtain ⟨b, e1, _, _⟩ := DataW.trod_string Tryz.underlying9 h1
    obtain rfl := List.cons.inj e0 |>.1
    obtain rfl := List.cons.inj e1 |>.1
    exact ⟨c0, q, b, rfl, hr⟩
end
end Go.Proofs.YtegbkfloiiilfaaGreatDoor.Msg
