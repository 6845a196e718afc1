/-
  The document's log: Sync, Reset.
-/
import Derived.Test.YtghpohiinnallaaGreatDoorKgCrc
import Derived.Test.YtghpohiinnallaaGreatDoorKgShared
import Derived.Deep.CutRange
import Derived.Outline
import Derived.Test.YtghpohiinnallaaGreatDoorKgWalB

/-
  Walks of the document's answer: Sum.
-/
namespace Go.Proofs.YtghpohiinnallaaGreatDoor.Crc
open Go.RowKit

set_option maxHeartbeats 400000 in
theorem refSum_any (n : Nat) (s : ByteArray) (w : World) (hn : n < 4294967296) (hs : s.size ≤ 100000) :
    Calls Tryz.prog 138 #[.int .u32 n, .string s] w fun e w' => e = .returned (.int .u32 (addS n (bl s))) ∧ w = w' := by
  go_enter Tryz.func138, Tryz.ntmps138
  go_wp2
  go_loop [5, 6, 7, 8, 9] (fun x i _ _ _ => ∃ k : Nat, k ≤ s.size ∧ i = .int .i64 k ∧ x = .int .u32 (run (4294967295 - n) ((bl s).take k))) (fun _ i _ _ _ => s.size - (intOf i).toNat)
  case atStart => exact ⟨0, Nat.zero_le _, rfl, int_eq (by show (4294967295 - (n : Int)) = ((4294967295 - n : Nat) : Int); omega)⟩
  case round =>
    obtain ⟨k, hk, rfl, rfl⟩ := hrel
    have hlt := run_lt ((bl s).take k) (x := 4294967295 - n) (by omega)
    by_cases hks : k < s.size
    · have hb := byte_lt s[k]
      obtain ⟨x, hx⟩ : ∃ x, run (4294967295 - n) ((bl s).take k) = x := ⟨_, rfl⟩
      have HS : Hid (run (4294967295 - n) ((bl s).take (k + 1)) = addB x s[k]) := by
        show run (4294967295 - n) ((bl s).take (k + 1)) = addB x s[k]
        rw [take_snoc s k hks, run_snoc, hx]
      rw [hx] at hlt ⊢
      clear hx
      go_wp2
      go_loop [5, 7, 8, 9] (fun y c j _ => ∃ m : Nat, m ≤ 8 ∧ j = .int .i64 m ∧ y = .int .u32 (rsteps m x s[k].toNat) ∧ c = .int .u8 ((s[k].toNat / 2 ^ m : Nat) : Int)) (fun _ _ j _ => 8 - (intOf j).toNat)
      case atStart => exact ⟨0, by omega, rfl, rfl, by simp⟩
      case round =>
        obtain ⟨m, hm, rfl, rfl, rfl⟩ := hrel
        have hlt2 := rsteps_lt (c := s[k].toNat) hlt m
        have hc2 : s[k].toNat / 2 ^ m < 256 := Nat.lt_of_le_of_lt (Nat.div_le_self _ _) hb
        obtain ⟨y, hy⟩ : ∃ y, rsteps m x s[k].toNat = y := ⟨_, rfl⟩
        obtain ⟨c, hc⟩ : ∃ c, s[k].toNat / 2 ^ m = c := ⟨_, rfl⟩
        rw [hy] at hlt2 ⊢
        rw [hc] at hc2 ⊢
        by_cases hm8 : m < 8
        · have HR : Hid (rsteps (m + 1) x s[k].toNat = rstep y c) := by
            show rstep (rsteps m x s[k].toNat) (s[k].toNat / 2 ^ m) = rstep y c
            rw [hy, hc]
          have HC : Hid (s[k].toNat / 2 ^ (m + 1) = c / 2) := by
            show s[k].toNat / 2 ^ (m + 1) = c / 2
            rw [Nat.pow_succ, ← Nat.div_div_eq_div_mul, hc]
          clear hy hc
          by_cases hp : (y + c) % 2 = 1
          · have ht : (((y : Int) + (c : Int)) % 2 == 1) = true := by simp; omega
            have HP : Hid (bits .xor .u32 ((y : Int) / 2) 2197175160 = ((rstep y c : Nat) : Int)) := by
              show bits .xor .u32 ((y : Int) / 2) 2197175160 = ((rstep y c : Nat) : Int)
              rw [xorP y hlt2]; unfold rstep; rw [if_pos hp]
            clear hp
            go_wp2
            go_round
            case rel => exact ⟨m + 1, by omega, by go_num, by rw [HR.out, HP.out], by rw [HC.out]; rfl⟩
            case measure => simp [intOf]; omega
          · have ht : (((y : Int) + (c : Int)) % 2 == 1) = false := by simp; omega
            have HP : Hid ((y : Int) / 2 = ((rstep y c : Nat) : Int)) := by
              show (y : Int) / 2 = ((rstep y c : Nat) : Int)
              unfold rstep; rw [if_neg hp]; rfl
            clear hp
            go_wp2
            go_round
            case rel => exact ⟨m + 1, by omega, by go_num, by rw [HR.out, HP.out], by rw [HC.out]; rfl⟩
            case measure => simp [intOf]; omega
        · obtain rfl : m = 8 := by omega
          have HY : Hid (addB x s[k] = y) := by
            show addB x s[k] = y
            rw [← rsteps_byte, hy]
          clear hy hc
          go_wp2
          go_round
          case rel => exact ⟨k + 1, by omega, by go_num, by rw [HS.out, HY.out]⟩
          case measure => simp [intOf]; omega
    · have HE : Hid (addS n (bl s) = 4294967295 - run (4294967295 - n) ((bl s).take k)) := by
        show addS n (bl s) = 4294967295 - run (4294967295 - n) ((bl s).take k)
        rw [List.take_of_length_le (by simp; omega)]; rfl
      go_wp2
      go_ret
      exact ⟨ret_int (by rw [HE.out]; omega), rfl⟩
theorem refSum_0 (s : ByteArray) (w : World) (hs : s.size ≤ 100000) :
    Calls Tryz.prog 138 #[.int .u32 0, .string s] w fun e w' => e = .returned (.int .u32 (sumS (bl s))) ∧ w = w' := refSum_any 0 s w (by decide) hs
end Go.Proofs.YtghpohiinnallaaGreatDoor.Crc

/-
  The document's log: Frame, Room.
-/
namespace Go.Proofs.YtghpohiinnallaaGreatDoor.Wal
open Go Go.RowKit
open Go.Proofs.YtghpohiinnallaaGreatDoor.Disk
open Go.Proofs.YtghpohiinnallaaGreatDoor.Nets (Reads Tab Small bl ba)

theorem row_le : ∀ (ls : List (List UInt8)), (∀ l ∈ ls, l.length ≤ 2000) → (Nets.rowS ls).length ≤ ls.length * 2020
  | [], _ => by simp [Nets.rowS]
  | l :: ls, h => by
    have e : Nets.rowS (l :: ls) = Nets.putS l ++ Nets.rowS ls := by simp [Nets.rowS]
    have h1 := row_le ls fun x hx => h x (by simp [hx])
    have h2 := h l (by simp)
    have h3 := Nets.dec_len l.length (by omega)
    have h4 : (Nets.putS l).length = (Lib.decDigits l.length).length + (l.length + 1 + 1) := by unfold Nets.putS; simp
    rw [e, List.length_append, List.length_cons]
    omega
theorem pay_le {g : Grp} (h : ∀ x ∈ g, x.size ≤ 2000) (hl : g.length ≤ 45) : (payS g).length ≤ 100000 := by
  have := row_le (g.map bl) fun l hl => by
    obtain ⟨x, hx, rfl⟩ := List.mem_map.1 hl
    have := h x hx
    simpa using this
  rw [List.length_map] at this
  unfold payS
  omega
theorem bel_drew {w W : World} (h : Below w.heap.size w W) : Below w.heap.size w W.drew := h.drew
theorem bel_alloc {w W : World} {o : Obj} (h : Below w.heap.size w W) : Below w.heap.size w (W.alloc o) := h.alloc h.size _
theorem bel_via {w W w3 : World} (h : Below w.heap.size w W) (hb : Below W.heap.size W w3) : Below w.heap.size w w3 := h.trans (hb.mono h.size)
/-- The head of a frame, laid as five bytes. -/
def headB (c n : Nat) : ByteArray := ⟨#[UInt8.ofNat c]⟩ ++ Crc.bytesB n
abbrev headC (c n : Nat) : Array Value := #[.int .u8 c, .int .u8 ((n : Int) % 256), .int .u8 ((n : Int) / 256 % 256), .int .u8 ((n : Int) / 65536 % 256), .int .u8 ((n : Int) / 16777216)]
theorem conv_five {W : World} {b c n : Nat} (hL : Lies W b (headC c n) 5) : (convert 181 9 (.slice (some ⟨b, 0, none⟩) 5 5)).run Tryz.prog W = .ok (.string (headB c n)) W := by
  have h := run_convert_bytes_arg (P := Tryz.prog) W 181 5 Tryz.underlying181 Tryz.underlying5 b 0 5 5 [(c : Int), (n : Int) % 256, (n : Int) / 256 % 256, (n : Int) / 65536 % 256, (n : Int) / 16777216] rfl (fun i hi => by
    show W.cell? ⟨b, 0 + i, none⟩ = _
    rw [hL.cell]
    match i, hi with
    | 0, _ => rfl
    | 1, _ => rfl
    | 2, _ => rfl
    | 3, _ => rfl
    | 4, _ => rfl) 9 Tryz.underlying9
  rw [h]
  have e := Crc.fourB_bytes n
  unfold Crc.fourB at e
  unfold headB
  rw [← e]
  rfl
set_option maxRecDepth 100000 in
set_option maxHeartbeats 2000000 in
theorem refFrame_any {v : Value} {ss : List ByteArray} {w : World} (c : Nat) (_hc : c ≤ 1) (hr : Reads w v ss) (hs : Small ss) (hp : (payS ss).length ≤ 100000) :
    Calls Tryz.prog 110 #[.int .u8 c, v] w fun e w' => ∃ F : ByteArray, e = .returned (.string F) ∧ bl F = frameS (UInt8.ofNat c) ss ∧ Below w.heap.size w w' := by
  have hrr := Nets.refRow_any v ss w hr hs
  obtain ⟨X, hX⟩ : ∃ X : ByteArray, X = ⟨(payS ss).toArray⟩ := ⟨_, rfl⟩
  have hXb : bl X = payS ss := by rw [hX]
  have hXs : X.size = (payS ss).length := by rw [← hXb]; simp
  have hr1 : Calls Tryz.prog 136 #[v] w fun e w' => e = .returned (.string X) ∧ Below w.heap.size w w' := by rw [hX]; exact hrr
  have HR := Lib.hid hr1
  have hX2 : X.size ≤ 100000 := by omega
  have HS := Lib.hid (fun W => Crc.refSum_0 X W hX2)
  have HL := Lib.hid (show Crc.sumS (bl X) < 4294967296 from Crc.addS_lt 0 _)
  have HB2 := Lib.hid (fun W => Crc.refBytes_any (Crc.sumS (bl X)) W HL.out)
  have s2 := Crc.bytesB_size (Crc.sumS (bl X))
  have HF : Hid (⟨#[UInt8.ofNat c]⟩ ++ Crc.bytesB X.size ++ Crc.bytesB (Crc.sumS (bl X)) ++ X = frameB (UInt8.ofNat c) X) := rfl
  have HX := Lib.hid hXb
  generalize Crc.sumS (bl X) = q at *
  generalize Crc.bytesB q = y2 at *
  clear hr hs hp hrr hr1 hX hXb hXs
  go_enter Tryz.func110, Tryz.ntmps110
  go_wp2_with fail
  refine HR.out.mono ?_
  rintro e w1 ⟨rfl, hb1⟩
  have HB := Lib.hid hb1
  clear hb1
  have t0 : (X.size : Int).tmod 256 = (X.size : Int) % 256 := Int.tmod_eq_emod_of_nonneg (by omega)
  have u0 : IntKind.u8.wrap ((X.size : Int) % 256) = (X.size : Int) % 256 := by show ((X.size : Int) % 256) % 256 = _; omega
  have v1 : IntKind.i64.wrap ((X.size : Int) / 256) = (X.size : Int) / 256 := wrap_at (by omega) (by omega)
  have t1 : ((X.size : Int) / 256).tmod 256 = (X.size : Int) / 256 % 256 := Int.tmod_eq_emod_of_nonneg (by omega)
  have u1 : IntKind.u8.wrap ((X.size : Int) / 256 % 256) = (X.size : Int) / 256 % 256 := by show ((X.size : Int) / 256 % 256) % 256 = _; omega
  have v2 : IntKind.i64.wrap ((X.size : Int) / 65536) = (X.size : Int) / 65536 := wrap_at (by omega) (by omega)
  have t2 : ((X.size : Int) / 65536).tmod 256 = (X.size : Int) / 65536 % 256 := Int.tmod_eq_emod_of_nonneg (by omega)
  have u2 : IntKind.u8.wrap ((X.size : Int) / 65536 % 256) = (X.size : Int) / 65536 % 256 := by show ((X.size : Int) / 65536 % 256) % 256 = _; omega
  have v3 : IntKind.i64.wrap ((X.size : Int) / 16777216) = (X.size : Int) / 16777216 := wrap_at (by omega) (by omega)
  have u3 : IntKind.u8.wrap ((X.size : Int) / 16777216) = (X.size : Int) / 16777216 := by show ((X.size : Int) / 16777216) % 256 = _; omega
  have hcb := fun (W : World) => conv_five (Lies.new W (headC c X.size) 5)
  have hcd := fun (W : World) => conv_five (W := (W.alloc (.cells (headC c X.size) 5)).drew) (b := W.heap.size) (c := c) (n := X.size) ((Lies.new W (headC c X.size) 5).drewN 1)
  have hce := fun (W : World) => conv_five (W := (W.drew.alloc (.cells (headC c X.size) 5))) (b := W.heap.size) (c := c) (n := X.size) (Lies.new W.drew (headC c X.size) 5)
  have hba : (headB c X.size).size = 5 := rfl
  have HH : Hid (headB c X.size = ⟨#[UInt8.ofNat c]⟩ ++ Crc.bytesB X.size) := rfl
  have HCV : Hid (∀ w3 : World, Lies w3 w1.heap.size (headC c X.size) 5 → (convert 181 9 (.slice (some ⟨w1.heap.size, 0, none⟩) 5 5)).run Tryz.prog w3 = .ok (.string (headB c X.size)) w3) := Lib.hid fun w3 h3 => conv_five h3
  have HLN := Lib.hid (fun w3 (hb : Below (w1.alloc (.cells (headC c X.size) 5)).heap.size (w1.alloc (.cells (headC c X.size) 5)) w3) => (Lies.new w1 (headC c X.size) 5).same (hb.block _ (by simp)))
  generalize headB c X.size = Y at *
  go_upto_region 3 with (fail)
  go_cut [4] from 4 to 34 (fun x wx => x = .string (Y ++ y2 ++ X) ∧ Below w1.heap.size w1 wx)
  case first =>
    go_region_with (first | (go_at_call 138; (with_reducible refine (HS.out _).mono ?_); rintro e w2 ⟨rfl, rfl⟩) | (go_at_call 137; (with_reducible refine (HB2.out _).mono ?_); rintro e w3 ⟨rfl, hb3⟩; first | (have hcv := HCV.out w3 (Lies.same (show Lies _ w1.heap.size (headC c X.size) 5 from Lies.new w1 _ _) (hb3.block _ (by simp)))) | skip))
    all_goals
      go_wp2_with fail
      go_meet
      refine ⟨rfl, ?_⟩
      first
        | (refine bel_via ?_ hb3; repeat (first | exact Below.refl _ _ | refine bel_drew ?_ | refine bel_alloc ?_))
        | (refine bel_alloc (bel_via ?_ hb3); repeat (first | exact Below.refl _ _ | refine bel_drew ?_ | refine bel_alloc ?_))
  case rest =>
    obtain ⟨rfl, hbc⟩ := hcut
    have HBC := Lib.hid (HB.out.trans (hbc.mono HB.out.size))
    clear hbc
    go_wp2_with fail
    go_ret
    exact ⟨_, rfl, by rw [HH.out, HF.out]; exact frameB_bl HX.out, HBC.out⟩
/-- The room of the document's log. -/
theorem refRoom_any (n h : Int) (s : ByteArray) (ta wa : Option Addr) (tn tc wn wc : Nat) (f : Bool) (w : World) (m : Nat) (hn : n = m) (hs : s.size ≤ 100000) (hm : m ≤ 100000) :
    Calls Tryz.prog 111 #[.agg (qC n h s (.slice ta tn tc) (.slice wa wn wc) f)] w fun e w' => e = .returned (.int .i64 ((m - s.size - 1 : Nat) : Int)) ∧ Below w.heap.size w w' := by
  subst hn
  have hb : Below w.heap.size w (w.alloc (.cells (qC m h s (.slice ta tn tc) (.slice wa wn wc) f) qT)) := (Below.refl _ _).alloc (Nat.le_refl _) _
  by_cases hg : m < s.size + 1
  · go_enter Tryz.func111, Tryz.ntmps111
    go_wp2_with fail
    go_ret
    exact ⟨Nets.ret_int (by omega), hb⟩
  · go_enter Tryz.func111, Tryz.ntmps111
    go_wp2_with fail
    go_ret
    exact ⟨Nets.ret_int (by omega), hb⟩
end Go.Proofs.YtghpohiinnallaaGreatDoor.Wal

/-
  The document's log: Sync, Reset.
-/
namespace Go.Proofs.YtghpohiinnallaaGreatDoor.Wal
open Go Go.RowKit
open Go.Proofs.YtghpohiinnallaaGreatDoor.Disk
open Go.Proofs.YtghpohiinnallaaGreatDoor.Nets (Reads Tab Small bl ba)

theorem results_row2 {P : Program} {fn : Func} {p u : Tmp} {ty : TypeId} (h : fn.results = #[.cell p ty, .tmp u]) (tmps : Array Value) (w : World) (g : Nat) (t : TypeId) (cs : Array Value) (fr : Nat × Nat) (d : TypeDesc)
    (hp : tmps.getD p undef = .pointer (some ⟨g, 0, none⟩)) (hg : w.heap[g]? = some (.cells cs t fr))
    (hu : P.underlying ty = some d) (hd : (match d with | .struct _ | .array _ _ => true | _ => false) = true) (hi : (P.info? ty).map (·.size) = some cs.size) :
    (results fn tmps).run P w = .ok (.tuple #[.agg cs, tmps.getD u undef]) w := by
  have hp' : tmps[p]?.getD undef = .pointer (some ⟨g, 0, none⟩) := by simpa using hp
  simp [results, h, hp', asAddr, run_loadVar_row w g t ty cs fr d hg hu hd hi]
abbrev qZ : Array Value := qC 0 0 ⟨#[]⟩ (.slice none 0 0) (.slice none 0 0) false
/-- Two boxes of the document's log: its own, and the one of the result. -/
structure Two (w : World) (b : Nat) (cs rs : Array Value) (W : World) : Prop where
  own : Lies W b cs qT
  res : Lies W (b + 1) rs qT
  low : w.heap.size ≤ b
  below : Below w.heap.size w W
theorem Two.start (w : World) (cs rs : Array Value) : Two w w.heap.size cs rs ((w.alloc (.cells cs qT)).alloc (.cells rs qT)) :=
  ⟨(Lies.new w _ _).same (Below.heap_alloc _ _ _ (by simp)), new_at (by simp), Nat.le_refl _, boxes _ _⟩
theorem Two.on {w W W' : World} {b : Nat} {cs rs : Array Value} (h : Two w b cs rs W) (hb : Below W.heap.size W W') : Two w b cs rs W' :=
  ⟨h.own.same (hb.block _ h.own.lt), h.res.same (hb.block _ h.res.lt), h.low, h.below.trans (hb.mono h.below.size)⟩
theorem Two.set {w W : World} {b : Nat} {cs rs : Array Value} (h : Two w b cs rs W) (i : Nat) (v : Value) : Two w b (cs.setIfInBounds i v) rs (W.setCell ⟨b, i, none⟩ v) :=
  ⟨h.own.set i v, h.res.other v (by omega), h.low, h.below.setCell h.low _⟩
theorem Two.fill {w W : World} {b : Nat} {cs : Array Value} {z0 z1 z2 z3 z4 z5 : Value} (h : Two w b cs #[z0, z1, z2, z3, z4, z5] W) (a0 a1 a2 a3 a4 a5 : Value) : Lies (fill6 W (b + 1) a0 a1 a2 a3 a4 a5) (b + 1) #[a0, a1, a2, a3, a4, a5] qT ∧ Below w.heap.size w (fill6 W (b + 1) a0 a1 a2 a3 a4 a5) :=
  ⟨lies_fill6 h.res _ _ _ _ _ _, h.below.trans ((fr_fill6 W (b + 1) a0 a1 a2 a3 a4 a5).below h.below.size fun k e => by have := h.low; omega)⟩
/-- Two lists, one behind the other, as a list of its own. -/
theorem append_two (w : World) {tv wv : Value} {ts ws : List ByteArray} (ht : Reads w tv ts) (hw : Reads w wv ws) (h1 : ts.length ≤ 100000) (h2 : ws.length ≤ 100000) : ∃ v1 w1 v2 w2, (Builtin.append_ #[28, 28] 28 #[.slice (some ⟨w.heap.size, 0, none⟩) 0 0, tv]).run Tryz.prog (w.alloc (.cells #[] strT)) = .ok v1 w1 ∧
    (Builtin.append_ #[28, 28] 28 #[v1, wv]).run Tryz.prog w1 = .ok v2 w2 ∧ w2.ownsRow w.heap.size strT 1 v2 (ts ++ ws).length ((ts ++ ws).map Value.string) ∧ Below w.heap.size w w2 := by
  obtain ⟨v1, w1, r1, o1, b1⟩ := append_made w tv ts ht (by omega)
  obtain ⟨v2, w2, r2, o2, g2, _⟩ := append_texts w1 w.heap.size v1 wv ts ws o1 (hw.below b1) (by omega) (by omega) b1.size
  exact ⟨v1, w1, v2, w2, r1, r2, o2, b1.grown g2 b1.size fun b hb => (o1.lt b hb).1⟩
/-- How the document's Sync ends. -/
inductive RSync (w : World) (m : Nat) (s : ByteArray) (tv : Value) (f : Bool) (texts wait : List ByteArray) (w' : World) (s' : ByteArray) (tv' : Value) : Int → Prop
  | none (hw : wait = []) (hs : s' = s) (ht : tv' = tv) : RSync w m s tv f texts wait w' s' tv' 0
  | room (hw : wait ≠ []) (hr : m - s.size - 1 < 9 + (payS wait).length) (hs : s' = s) (ht : tv' = tv) : RSync w m s tv f texts wait w' s' tv' 8
  | full (hw : wait ≠ []) (hr : 9 + (payS wait).length ≤ m - s.size - 1) (hf : f = true) (hs : s' = s) (ht : tv' = tv) : RSync w m s tv f texts wait w' s' tv' 81
  | done (hw : wait ≠ []) (hr : 9 + (payS wait).length ≤ m - s.size - 1) (hf : f = false) (hs : bl s' = bl s ++ frameS 1 wait) (ht : w'.ownsRow w.heap.size strT 1 tv' (texts ++ wait).length ((texts ++ wait).map Value.string)) : RSync w m s tv f texts wait w' s' tv' 0
set_option maxRecDepth 100000 in
set_option maxHeartbeats 1000000 in
theorem refSync_any (m h : Nat) (s : ByteArray) (tv wv : Value) (f : Bool) (texts wait : List ByteArray) (w : World) (ht : Reads w tv texts) (hw : Reads w wv wait) (hs : s.size ≤ 10000) (hm : m ≤ 10000) (hx : texts.length ≤ 10000) (hsm : Small wait) (hpay : (payS wait).length ≤ 100000) :
    Calls Tryz.prog 70 #[.agg (qC m h s tv wv f)] w fun e w' => ∃ s' tv' c, e = .returned (.tuple #[.agg (qC m h s' tv' (.slice none 0 0) f), .int .i64 c]) ∧ RSync w m s tv f texts wait w' s' tv' c ∧ Below w.heap.size w w' := by
  have hwl : wait.length ≤ 1000 := hsm.1
  obtain ⟨ta, tc, rfl⟩ := ht.form
  obtain ⟨wa, wc, rfl⟩ := hw.form
  by_cases hw0 : wait = []
  · have hl : wait.length = 0 := by rw [hw0]; rfl
    rw [hl]
    clear hw
    go_enter Tryz.func70, Tryz.ntmps70
    go_wp2_with fail
    have hE := Two.start w (qC m h s (.slice ta texts.length tc) (.slice none 0 0) f) (qC m h s (.slice ta texts.length tc) (.slice none 0 0) f)
    exact bodyPost_ret (v := .tuple #[.agg (qC m h s (.slice ta texts.length tc) (.slice none 0 0) f), .int .i64 0]) (results_row2 Tryz.results70 _ _ (w.heap.size + 1) qT _ (0, 0) _ rfl hE.res Tryz.underlying30 rfl sizeQ) rfl ⟨s, _, 0, rfl, .none hw0 rfl rfl, hE.below⟩
  · have hl0 : ((wait.length : Int) == 0) = false := by simp; exact hw0
    have h2 := Two.start w (qC m h s (.slice ta texts.length tc) (.slice none 0 0) f) qZ
    have HFR := Lib.hid (refFrame_any 1 (Nat.le_refl _) (hw.below h2.below) hsm hpay)
    have H2 := Lib.hid h2
    have HT := Lib.hid (And.intro ht hw)
    clear ht hw h2
    go_enter Tryz.func70, Tryz.ntmps70
    go_wp2_with fail
    generalize (w.alloc (.cells (qC m h s (.slice ta texts.length tc) (.slice none 0 0) f) 28)).alloc (.cells qZ 28) = W at *
    refine HFR.out.mono ?_
    rintro e w1 ⟨F, rfl, hF, hb1⟩
    have hT1 := H2.out.on hb1
    obtain ⟨x0, x1, x2, x3, x4, x5⟩ := six hT1.own
    have hF1 : bl F = frameS 1 wait := hF
    have hFs : F.size = 9 + (payS wait).length := by rw [← frame_len 1, ← hF1]; simp
    have hpl := hpay
    have HRM := Lib.hid (refRoom_any m h s ta none texts.length tc 0 0 f w1 m rfl (by omega) (by omega))
    have HT1 := Lib.hid (And.intro hT1 hF1)
    clear hT1 hF hF1 hb1 H2 HFR
    go_wp2_with fail
    refine HRM.out.mono ?_
    rintro e w2 ⟨rfl, hb2⟩
    have hT2 := HT1.out.1.on hb2
    have HF := Lib.hid HT1.out.2
    obtain ⟨x0, x1, x2, x3, x4, x5⟩ := six hT2.own
    obtain ⟨z0, z1, z2, z3, z4, z5⟩ := six hT2.res
    have zf := fun j => hT2.res.free j
    have xf := fun j => hT2.own.free j
    have HT2 := Lib.hid hT2
    clear hT2 hb2 HT1 HRM
    by_cases hg : m - s.size - 1 < F.size
    · have hd : decide (((m - s.size - 1 : Nat) : Int) < (F.size : Int)) = true := decide_eq_true (by omega)
      have HE := Lib.hid (HT2.out.fill (.int .i64 m) (.int .i64 h) (.string s) (.slice ta texts.length tc) (.slice none 0 0) (.bool f))
      go_wp2_with fail
      exact bodyPost_ret (v := .tuple #[.agg (qC m h s (.slice ta texts.length tc) (.slice none 0 0) f), .int .i64 8]) (results_row2 Tryz.results70 _ _ (w.heap.size + 1) qT _ (0, 0) _ rfl HE.out.1 Tryz.underlying30 rfl sizeQ) rfl ⟨s, _, 8, rfl, .room hw0 (by omega) rfl rfl, HE.out.2⟩
    · have hd : decide (((m - s.size - 1 : Nat) : Int) < (F.size : Int)) = false := decide_eq_false (by omega)
      cases f
      · have hT3 := HT2.out.set 2 (.string (s ++ F))
        obtain ⟨v1, w4, v2, w5, r1, r2, o2, b2⟩ := append_two (w2.setCell ⟨w.heap.size, 2, none⟩ (.string (s ++ F))) (HT.out.1.below hT3.below) (HT.out.2.below hT3.below) (by omega) (by omega)
        have hsz : (w2.setCell ⟨w.heap.size, 2, none⟩ (.string (s ++ F))).heap.size = w2.heap.size := by simp [World.setCell]
        rw [hsz] at r1
        obtain ⟨a2, c2, hv2⟩ := owns_slice o2
        rw [List.length_append] at hv2
        subst hv2
        have hT5 := hT3.on b2
        have l3 : ((w2.setCell ⟨w.heap.size, 2, none⟩ (.string (s ++ F))).alloc (.cells #[] 9)).cell? ⟨w.heap.size, 3, none⟩ = some (.slice ta texts.length tc) := (hT3.on ((Below.refl _ _).alloc (Nat.le_refl _) _)).own.cell 3
        obtain ⟨y0, y1, y2, y3, y4, y5⟩ := six (show Lies w5 w.heap.size #[.int .i64 m, .int .i64 h, .string (s ++ F), .slice ta texts.length tc, .slice none 0 0, .bool false] qT from hT5.own)
        obtain ⟨u0, u1, u2, u3, u4, u5⟩ := six hT5.res
        have uf := fun j => hT5.res.free j
        have yf := fun j => hT5.own.free j
        have HR1 := Lib.hid r1
        have HR2 := Lib.hid r2
        have hbb : ∀ b, (Value.slice a2 (texts.length + wait.length) c2).ownBlock = some b → b ≠ w.heap.size ∧ b ≠ w.heap.size + 1 := fun b hb => by
          have h1 := (o2.lt b hb).1
          have h2 := hT3.own.lt
          have h3 := hT3.res.lt
          omega
        have hT6 := hT5.set 3 (.slice a2 (texts.length + wait.length) c2)
        have hE := hT6.fill (.int .i64 m) (.int .i64 h) (.string (s ++ F)) (.slice a2 (texts.length + wait.length) c2) (.slice none 0 0) (.bool false)
        have hO : (fill6 (w5.setCell ⟨w.heap.size, 3, none⟩ (.slice a2 (texts.length + wait.length) c2)) (w.heap.size + 1) (.int .i64 m) (.int .i64 h) (.string (s ++ F)) (.slice a2 (texts.length + wait.length) c2) (.slice none 0 0) (.bool false)).ownsRow w.heap.size strT 1 (.slice a2 (texts.length + wait.length) c2) (texts ++ wait).length ((texts ++ wait).map Value.string) :=
          owns_low (Fr.owns (Fr.owns o2 (Fr.one w5 w.heap.size 3 _) fun b hb e => (hbb b hb).1 e) (fr_fill6 _ _ _ _ _ _ _ _) fun b hb e => (hbb b hb).2 e) hT3.below.size
        have HE := Lib.hid (And.intro hE hO)
        have hbs : bl (s ++ F) = bl s ++ frameS 1 wait := by rw [← HF.out]; show (s ++ F).data.toList = _; rw [ByteArray.data_append, Array.toList_append]
        have HBS := Lib.hid hbs
        clear hT3 r1 r2 o2 b2 hsz hT5 hbb hT6 hE hO hbs
        go_wp2_with (first | (at_builtin; refine wpList_append_run rfl _ _ 28 rfl _ _ _ rfl rfl HR1.out ?_) | (at_builtin; refine wpList_append_run rfl _ _ 28 rfl _ _ _ rfl rfl HR2.out ?_))
        exact bodyPost_ret (v := .tuple #[.agg (qC m h (s ++ F) (.slice a2 (texts.length + wait.length) c2) (.slice none 0 0) false), .int .i64 0]) (results_row2 Tryz.results70 _ _ (w.heap.size + 1) qT _ (0, 0) _ rfl HE.out.1.1 Tryz.underlying30 rfl sizeQ) rfl ⟨s ++ F, _, 0, rfl, .done hw0 (by omega) rfl HBS.out HE.out.2, HE.out.1.2⟩
      · have HE := Lib.hid (HT2.out.fill (.int .i64 m) (.int .i64 h) (.string s) (.slice ta texts.length tc) (.slice none 0 0) (.bool true))
        go_wp2_with fail
        exact bodyPost_ret (v := .tuple #[.agg (qC m h s (.slice ta texts.length tc) (.slice none 0 0) true), .int .i64 81]) (results_row2 Tryz.results70 _ _ (w.heap.size + 1) qT _ (0, 0) _ rfl HE.out.1 Tryz.underlying30 rfl sizeQ) rfl ⟨s, _, 81, rfl, .full hw0 (by omega) rfl rfl rfl, HE.out.2⟩
end Go.Proofs.YtghpohiinnallaaGreatDoor.Wal

/-
  The document's log: Reset.
-/
namespace Go.Proofs.YtghpohiinnallaaGreatDoor.Wal
open Go Go.RowKit
open Go.Proofs.YtghpohiinnallaaGreatDoor.Disk
open Go.Proofs.YtghpohiinnallaaGreatDoor.Nets (Reads Tab Small bl ba)

/-- How the document's Reset ends. -/
inductive RReset (m h : Nat) (s : ByteArray) (tv lv : Value) (f : Bool) (l : List ByteArray) (h' : Nat) (s' : ByteArray) (tv' : Value) : Int → Prop
  | room (hr : m < 9 + (payS l).length + 1) (hh : h' = h) (hs : s' = s) (ht : tv' = tv) : RReset m h s tv lv f l h' s' tv' 8
  | full (hr : 9 + (payS l).length + 1 ≤ m) (hf : f = true) (hh : h' = h) (hs : s' = s) (ht : tv' = tv) : RReset m h s tv lv f l h' s' tv' 81
  | done (hr : 9 + (payS l).length + 1 ≤ m) (hf : f = false) (hh : h' = 1 - h) (hs : bl s' = framesS (newG l)) (ht : tv' = lv) : RReset m h s tv lv f l h' s' tv' 0
theorem pay_nil : (payS []).length = 0 := rfl
set_option maxRecDepth 100000 in
set_option maxHeartbeats 1000000 in
theorem refReset_any (m h : Nat) (s : ByteArray) (ta wa : Option Addr) (tn tc wn wc : Nat) (lv : Value) (f : Bool) (l : List ByteArray) (w : World) (hl : Reads w lv l) (_hs : s.size ≤ 10000) (hm : m ≤ 10000) (hm2 : 48 ≤ m) (hh : h ≤ 1) (hsm : Small l) (hpay : (payS l).length ≤ 100000) :
    Calls Tryz.prog 71 #[.agg (qC m h s (.slice ta tn tc) (.slice wa wn wc) f), lv] w fun e w' => ∃ (h' : Nat) (s' : ByteArray) (tv' : Value) (c : Int), e = .returned (.tuple #[.agg (qC m h' s' tv' (.slice wa wn wc) f), .int .i64 c]) ∧ RReset m h s (.slice ta tn tc) lv f l h' s' tv' c ∧ Below w.heap.size w w' := by
  obtain ⟨la, lc, rfl⟩ := hl.form
  have hcs : ((1 - h : Nat) : Int) = 1 - (h : Int) := by omega
  by_cases hl0 : l = []
  · have hlen : l.length = 0 := by rw [hl0]; rfl
    rw [hlen]
    clear hl
    cases f
    · have hE := Two.start w (qC m (1 - (h : Int)) ⟨#[]⟩ (.slice la 0 lc) (.slice wa wn wc) false) (qC m (1 - (h : Int)) ⟨#[]⟩ (.slice la 0 lc) (.slice wa wn wc) false)
      have HE := Lib.hid hE
      have HC := Lib.hid hcs
      clear hE hcs
      go_enter Tryz.func71, Tryz.ntmps71
      go_wp2_with fail
      exact bodyPost_ret (v := .tuple #[.agg (qC m (1 - (h : Int)) ⟨#[]⟩ (.slice la 0 lc) (.slice wa wn wc) false), .int .i64 0]) (results_row2 Tryz.results71 _ _ (w.heap.size + 1) qT _ (0, 0) _ rfl HE.out.res Tryz.underlying30 rfl sizeQ) rfl ⟨1 - h, ⟨#[]⟩, _, 0, by rw [HC.out], .done (by rw [hl0, pay_nil]; omega) rfl rfl (by rw [hl0]; rfl) rfl, HE.out.below⟩
    · have hE := Two.start w (qC m h s (.slice ta tn tc) (.slice wa wn wc) true) (qC m h s (.slice ta tn tc) (.slice wa wn wc) true)
      have HE := Lib.hid hE
      clear hE hcs
      go_enter Tryz.func71, Tryz.ntmps71
      go_wp2_with fail
      exact bodyPost_ret (v := .tuple #[.agg (qC m h s (.slice ta tn tc) (.slice wa wn wc) true), .int .i64 81]) (results_row2 Tryz.results71 _ _ (w.heap.size + 1) qT _ (0, 0) _ rfl HE.out.res Tryz.underlying30 rfl sizeQ) rfl ⟨h, s, _, 81, rfl, .full (by rw [hl0, pay_nil]; omega) rfl rfl rfl rfl, HE.out.below⟩
  · have hlp : (0 : Int) < (l.length : Int) := by
      have : l.length ≠ 0 := fun e => hl0 (List.length_eq_zero_iff.1 e)
      omega
    have hlw := hl.below (Two.start w (qC m h s (.slice ta tn tc) (.slice wa wn wc) f) qZ).below
    have HFR := Lib.hid (refFrame_any 1 (Nat.le_refl _) hlw hsm hpay)
    have H2 := Lib.hid (Two.start w (qC m h s (.slice ta tn tc) (.slice wa wn wc) f) qZ)
    clear hl hlw
    go_enter Tryz.func71, Tryz.ntmps71
    go_wp2_with fail
    generalize (w.alloc (.cells (qC m h s (.slice ta tn tc) (.slice wa wn wc) f) 28)).alloc (.cells qZ 28) = W at *
    refine HFR.out.mono ?_
    rintro e w1 ⟨F, rfl, hF, hb1⟩
    have hT1 := H2.out.on hb1
    obtain ⟨x0, x1, x2, x3, x4, x5⟩ := six hT1.own
    obtain ⟨z0, z1, z2, z3, z4, z5⟩ := six hT1.res
    have zf := fun j => hT1.res.free j
    have xf := fun j => hT1.own.free j
    have hF1 : bl F = frameS 1 l := hF
    have hFs : F.size = 9 + (payS l).length := by rw [← frame_len 1, ← hF1]; simp
    have hFb : F.size ≤ 100009 := by omega
    have HF := Lib.hid (And.intro hF1 hFs)
    have HT1 := Lib.hid hT1
    clear hT1 hF hF1 hb1 H2 HFR hFs
    by_cases hg : m < F.size + 1
    · have hd : decide ((m : Int) < (F.size : Int) + 1) = true := decide_eq_true (by omega)
      have HE := Lib.hid (HT1.out.fill (.int .i64 m) (.int .i64 h) (.string s) (.slice ta tn tc) (.slice wa wn wc) (.bool f))
      go_wp2_with fail
      exact bodyPost_ret (v := .tuple #[.agg (qC m h s (.slice ta tn tc) (.slice wa wn wc) f), .int .i64 8]) (results_row2 Tryz.results71 _ _ (w.heap.size + 1) qT _ (0, 0) _ rfl HE.out.1 Tryz.underlying30 rfl sizeQ) rfl ⟨h, s, _, 8, rfl, .room (by have := HF.out.2; omega) rfl rfl rfl, HE.out.2⟩
    · have hd : decide ((m : Int) < (F.size : Int) + 1) = false := decide_eq_false (by omega)
      cases f
      · have hT2 := ((HT1.out.set 1 (.int .i64 (1 - (h : Int)))).set 2 (.string F)).set 3 (.slice la l.length lc)
        have HE := Lib.hid (hT2.fill (.int .i64 m) (.int .i64 (1 - (h : Int))) (.string F) (.slice la l.length lc) (.slice wa wn wc) (.bool false))
        have HC := Lib.hid hcs
        clear hT2 hcs
        go_wp2_with fail
        exact bodyPost_ret (v := .tuple #[.agg (qC m (1 - (h : Int)) F (.slice la l.length lc) (.slice wa wn wc) false), .int .i64 0]) (results_row2 Tryz.results71 _ _ (w.heap.size + 1) qT _ (0, 0) _ rfl HE.out.1 Tryz.underlying30 rfl sizeQ) rfl ⟨1 - h, F, _, 0, by rw [HC.out], .done (by have := HF.out.2; omega) rfl rfl (by rw [newG_one hl0]; exact HF.out.1) rfl, HE.out.2⟩
      · have HE := Lib.hid (HT1.out.fill (.int .i64 m) (.int .i64 h) (.string s) (.slice ta tn tc) (.slice wa wn wc) (.bool true))
        go_wp2_with fail
        exact bodyPost_ret (v := .tuple #[.agg (qC m h s (.slice ta tn tc) (.slice wa wn wc) true), .int .i64 81]) (results_row2 Tryz.results71 _ _ (w.heap.size + 1) qT _ (0, 0) _ rfl HE.out.1 Tryz.underlying30 rfl sizeQ) rfl ⟨h, s, _, 81, rfl, .full (by have := HF.out.2; omega) rfl rfl rfl rfl, HE.out.2⟩
end Go.Proofs.YtghpohiinnallaaGreatDoor.Wal
