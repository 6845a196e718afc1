/-
  The document's block: its schedule.
-/
import Derived.Test.YtnndifkilcommaaDoorShaWalkB
import Derived.Test.YtnndifkilcommaaDoorShaKept
import Derived.IntWalk
namespace Go.Proofs.YtnndifkilcommaaDoor.Sha
open Go.RowKit

/-- The memory while the document's schedule is filled. -/
def OneMem (v : St) (f : Nat → Nat) (N : Nat) (w wr : World) : Prop :=
  Holds wr N (rowOf .u32 8 (stAt v)) 37 ∧ Holds wr (N + 1) (rowOf .u32 64 kAt) 39 ∧ Holds wr (N + 1 + 1) (rowOf .u32 8 fun _ => 0) 37 ∧ Holds wr (N + 1 + 1 + 1) (rowOf .u32 64 f) 39 ∧ Below w.heap.size w wr ∧ N = w.heap.size
theorem OneMem.drewN {v : St} {f : Nat → Nat} {N : Nat} {w wr : World} (h : OneMem v f N w wr) (n : Nat) : OneMem v f N w (wr.drewN n) :=
  ⟨h.1.drewN n, h.2.1.drewN n, h.2.2.1.drewN n, h.2.2.2.1.drewN n, below_drewN h.2.2.2.2.1 n, h.2.2.2.2.2⟩
theorem OneMem.set {v : St} {f : Nat → Nat} {N : Nat} {w wr : World} (h : OneMem v f N w wr) (i x : Nat) : OneMem v (upd f i x) N w (wr.setCell ⟨N + 1 + 1 + 1, i, none⟩ (.int .u32 x)) :=
  ⟨h.1.other _ (by omega), h.2.1.other _ (by omega), h.2.2.1.other _ (by omega), h.2.2.2.1.set i x, h.2.2.2.2.1.setCell (p := ⟨N + 1 + 1 + 1, i, none⟩) (by show w.heap.size ≤ N + 1 + 1 + 1; have := h.2.2.2.2.2; omega) _, h.2.2.2.2.2⟩
theorem OneMem.as {v : St} {f f' : Nat → Nat} {N : Nat} {w wr : World} (h : OneMem v f N w wr) (e : ∀ j, j < 64 → f j = f' j) : OneMem v f' N w wr := by
  unfold OneMem; rw [← rowOf_congr (k := .u32) e]; exact h
theorem one_start (v : St) (w : World) : OneMem v (fun _ => 0) w.heap.size w ((((w.alloc (.cells (rowOf .u32 8 (stAt v)) 37)).alloc (.cells (rowOf .u32 64 kAt) 39)).alloc (.cells (rowOf .u32 8 fun _ => 0) 37)).alloc (.cells (rowOf .u32 64 fun _ => 0) 39)) := by
  have s1 : (w.alloc (.cells (rowOf .u32 8 (stAt v)) 37)).heap.size = w.heap.size + 1 := by simp
  have s2 : ((w.alloc (.cells (rowOf .u32 8 (stAt v)) 37)).alloc (.cells (rowOf .u32 64 kAt) 39)).heap.size = w.heap.size + 1 + 1 := by simp
  have s3 : (((w.alloc (.cells (rowOf .u32 8 (stAt v)) 37)).alloc (.cells (rowOf .u32 64 kAt) 39)).alloc (.cells (rowOf .u32 8 fun _ => 0) 37)).heap.size = w.heap.size + 1 + 1 + 1 := by simp
  refine ⟨(((Holds.new w _ _).alloc _).alloc _).alloc _, ?_, ?_, ?_, ?_, rfl⟩
  · rw [← s1]; exact ((Holds.new _ _ _).alloc _).alloc _
  · rw [← s2]; exact (Holds.new _ _ _).alloc _
  · rw [← s3]; exact Holds.new _ _ _
  · exact ((((Below.refl _ _).alloc (Nat.le_refl _) _).alloc (by omega) _).alloc (by omega) _).alloc (by omega) _
def OneSch (v : St) (b : List UInt8) (N : Nat) (w : World) (i : Value) (wr : World) : Prop := ∃ k : Nat, k ≤ 64 ∧ i = .int .i64 k ∧ OneMem v (wUpto b k) N w wr

/-- The memory while the document's rounds go on. -/
def TwoMem (v : St) (b : List UInt8) (u : St) (M : Nat) (w wr : World) : Prop :=
  Holds wr w.heap.size (rowOf .u32 8 (stAt v)) 37 ∧ Holds wr (w.heap.size + 1) (rowOf .u32 64 kAt) 39 ∧ Holds wr (w.heap.size + 1 + 1) (rowOf .u32 8 fun _ => 0) 37 ∧ Holds wr (w.heap.size + 1 + 1 + 1) (rowOf .u32 64 (wAt b)) 39 ∧
    Holds wr M (rowOf .u32 8 (stAt u)) 37 ∧ Below w.heap.size w wr ∧ w.heap.size + 1 + 1 + 1 < M
theorem TwoMem.drewN {v : St} {b : List UInt8} {u : St} {M : Nat} {w wr : World} (h : TwoMem v b u M w wr) (n : Nat) : TwoMem v b u M w (wr.drewN n) :=
  ⟨h.1.drewN n, h.2.1.drewN n, h.2.2.1.drewN n, h.2.2.2.1.drewN n, h.2.2.2.2.1.drewN n, below_drewN h.2.2.2.2.2.1 n, h.2.2.2.2.2.2⟩
theorem TwoMem.row {v : St} {b : List UInt8} {u : St} {M : Nat} {w wr : World} (h : TwoMem v b u M w wr) (u' : St) : TwoMem v b u' M w (wr.setRow M (rowOf .u32 8 (stAt u'))) := by
  have hM := h.2.2.2.2.2.2
  exact ⟨h.1.row_other _ (by omega), h.2.1.row_other _ (by omega), h.2.2.1.row_other _ (by omega), h.2.2.2.1.row_other _ (by omega), h.2.2.2.2.1.row _, below_row h.2.2.2.2.2.1 _ _ (by omega), hM⟩
theorem two_start (v : St) (b : List UInt8) (w wr : World) (h : OneMem v (wAt b) w.heap.size w wr) : TwoMem v b v wr.heap.size w ((wr.alloc (.cells (rowOf .u32 8 fun _ => 0) 37)).setRow wr.heap.size (rowOf .u32 8 (stAt v))) := by
  have h4 := h.2.2.2.1.lt
  have hb : Below wr.heap.size wr ((wr.alloc (.cells (rowOf .u32 8 fun _ => 0) 37)).setRow wr.heap.size (rowOf .u32 8 (stAt v))) := below_row ((Below.refl _ _).alloc (Nat.le_refl _) _) _ _ (Nat.le_refl _)
  exact ⟨h.1.below hb (by omega), h.2.1.below hb (by omega), h.2.2.1.below hb (by omega), h.2.2.2.1.below hb h4, (Holds.new _ _ _).row _, h.2.2.2.2.1.trans (hb.mono h.2.2.2.2.1.size), h4⟩
theorem TwoMem.cells {v : St} {b : List UInt8} {ua ub uc ud ue uf ug uh : Nat} {M : Nat} {w wr : World} (h : TwoMem v b ⟨ua, ub, uc, ud, ue, uf, ug, uh⟩ M w wr) :
    wr.cell? ⟨M, 0, none⟩ = some (.int .u32 ua) ∧ wr.cell? ⟨M, 1, none⟩ = some (.int .u32 ub) ∧ wr.cell? ⟨M, 2, none⟩ = some (.int .u32 uc) ∧ wr.cell? ⟨M, 3, none⟩ = some (.int .u32 ud) ∧
    wr.cell? ⟨M, 4, none⟩ = some (.int .u32 ue) ∧ wr.cell? ⟨M, 5, none⟩ = some (.int .u32 uf) ∧ wr.cell? ⟨M, 6, none⟩ = some (.int .u32 ug) ∧ wr.cell? ⟨M, 7, none⟩ = some (.int .u32 uh) :=
  have g := h.2.2.2.2.1
  ⟨g.num (j := 0) (by decide), g.num (j := 1) (by decide), g.num (j := 2) (by decide), g.num (j := 3) (by decide), g.num (j := 4) (by decide), g.num (j := 5) (by decide), g.num (j := 6) (by decide), g.num (j := 7) (by decide)⟩
def TwoAt (v : St) (b : List UInt8) (M : Nat) (w : World) (i : Value) (wr : World) : Prop := ∃ (k : Nat) (u : St), k ≤ 64 ∧ i = .int .i64 k ∧ rounds (sch b 64) v k = u ∧ TwoMem v b u M w wr
theorem ch_sub (x y z : Nat) (hx : x < 4294967296) (hy : y < 4294967296) (hz : z < 4294967296) :
    bits .or .u32 (bits .and .u32 (x : Int) (y : Int)) (bits .and .u32 (4294967295 - (x : Int)) (z : Int)) = ((ch x y z : Nat) : Int) := by
  have e : (4294967295 : Int) - (x : Int) = ((4294967295 - x : Nat) : Int) := by omega
  rw [e, u32_and_nat x y hx hy, u32_and_nat _ z (by omega) hz, u32_or_nat _ _ (and_lt32 hx) (and_lt32 (by omega))]; rfl
/- The last sums, one by one. -/
def addF (v u : St) (k : Nat) : Nat → Nat := fun j => if j < k then (stAt u j + stAt v j) % 4294967296 else stAt u j
theorem addF_at (v u : St) (k : Nat) : addF v u k k = stAt u k := by unfold addF; rw [if_neg (by omega)]
theorem addF_next (v u : St) (k j : Nat) : upd (addF v u k) k ((stAt u k + stAt v k) % 4294967296) j = addF v u (k + 1) j := by
  unfold upd addF
  by_cases h : j = k
  · subst h; rw [if_pos rfl, if_pos (by omega)]
  · rw [if_neg h]
    by_cases g : j < k
    · rw [if_pos g, if_pos (by omega)]
    · rw [if_neg g, if_neg (by omega)]
theorem addF_done (v u : St) : ∀ j, j < 8 → addF v u 8 j = stAt (addSt v u) j := by
  intro j hj
  unfold addF
  rw [if_pos hj, Nat.add_comm]
  match j, hj with
  | 0, _ => rfl
  | 1, _ => rfl
  | 2, _ => rfl
  | 3, _ => rfl
  | 4, _ => rfl
  | 5, _ => rfl
  | 6, _ => rfl
  | 7, _ => rfl
def ThreeMem (v : St) (f : Nat → Nat) (M : Nat) (w wr : World) : Prop :=
  Holds wr w.heap.size (rowOf .u32 8 (stAt v)) 37 ∧ Holds wr (w.heap.size + 1 + 1) (rowOf .u32 8 fun _ => 0) 37 ∧ Holds wr M (rowOf .u32 8 f) 37 ∧ Below w.heap.size w wr ∧ w.heap.size + 1 + 1 + 1 < M
def ThreeAt (v u : St) (M : Nat) (w : World) (i : Value) (wr : World) : Prop := ∃ k : Nat, k ≤ 8 ∧ i = .int .i64 k ∧ ThreeMem v (addF v u k) M w wr
theorem three_start {v u : St} {b : List UInt8} {M : Nat} {w wr : World} (h : TwoMem v b u M w wr) : ThreeAt v u M w (.int .i64 0) wr := by
  refine ⟨0, by omega, rfl, h.1, h.2.2.1, ?_, h.2.2.2.2.2.1, h.2.2.2.2.2.2⟩
  rw [rowOf_congr (k := .u32) (g' := stAt u) (fun j _ => by unfold addF; rw [if_neg (by omega)])]
  exact h.2.2.2.2.1
theorem three_next {v u : St} {k M : Nat} {w wr : World} (hk : k < 8) (h : ThreeMem v (addF v u k) M w wr) (n : Nat) :
    ThreeAt v u M w (.int .i64 ((k : Int) + 1)) ((wr.drewN n).setCell ⟨M, k, none⟩ (.int .u32 (((stAt u k : Int) + (stAt v k : Int)) % 4294967296))) := by
  have hM := h.2.2.2.2
  refine ⟨k + 1, by omega, rfl, (h.1.drewN n).other _ (by omega), (h.2.1.drewN n).other _ (by omega), ?_, (below_drewN h.2.2.2.1 n).setCell (p := ⟨M, k, none⟩) (by show w.heap.size ≤ M; omega) _, hM⟩
  rw [← rowOf_congr (k := .u32) (fun j _ => addF_next v u k j)]
  exact (h.2.2.1.drewN n).set k _
theorem stAt_lt2 {v : St} (hv : v.Ok) : ∀ j, stAt v j < 4294967296
  | 0 => hv.a | 1 => hv.b | 2 => hv.c | 3 => hv.d | 4 => hv.e | 5 => hv.f | 6 => hv.g | 7 => hv.h
  | _ + 8 => by show 0 < 4294967296; decide
/-- A round, of its parts. -/
def roundN (k w cv mv be ba : Nat) (u : St) : St :=
  { a := ((u.h + be + cv + k + w) % 4294967296 + (ba + mv) % 4294967296) % 4294967296, b := u.a, c := u.b, d := u.c, e := (u.d + (u.h + be + cv + k + w) % 4294967296) % 4294967296, f := u.e, g := u.f, h := u.g }
theorem row8_of (x0 x4 : Int) (n0 n4 a b c e f g : Nat) (h0 : x0 = (n0 : Int)) (h4 : x4 = (n4 : Int)) : (#[.int .u32 x0, .int .u32 a, .int .u32 b, .int .u32 c, .int .u32 x4, .int .u32 e, .int .u32 f, .int .u32 g] : Array Value) = rowOf .u32 8 (stAt ⟨n0, a, b, c, n4, e, f, g⟩) := by
  rw [h0, h4]; exact row8 _ _ _ _ _ _ _ _
theorem row8_round (x0 x4 : Int) (k w cv mv be ba ua ub uc ud ue uf ug uh : Nat) (h0 : x0 = ((((uh + be + cv + k + w) % 4294967296 + (ba + mv) % 4294967296) % 4294967296 : Nat) : Int)) (h4 : x4 = (((ud + (uh + be + cv + k + w) % 4294967296) % 4294967296 : Nat) : Int)) :
    (#[.int .u32 x0, .int .u32 ua, .int .u32 ub, .int .u32 uc, .int .u32 x4, .int .u32 ue, .int .u32 uf, .int .u32 ug] : Array Value) = rowOf .u32 8 (stAt (roundN k w cv mv be ba ⟨ua, ub, uc, ud, ue, uf, ug, uh⟩)) := row8_of x0 x4 _ _ ua ub uc ue uf ug h0 h4
theorem turn_int (x : Nat) (c : Int) (w : World) (hx : x < 4294967296) (h1 : 1 ≤ c) (h2 : c ≤ 31) : Calls Tryd.prog 25 #[.int .u32 x, .int .u64 c] w fun e w' => e = .returned (.int .u32 (rot x c.toNat)) ∧ w = w' := by
  obtain ⟨n, rfl⟩ := Int.eq_ofNat_of_zero_le (show 0 ≤ c by omega)
  exact turn_any x n w hx (by omega) (by omega)
theorem sE_eq (x : Nat) (hx : x < 4294967296) : bits .xor .u32 (bits .xor .u32 ((rot x 7 : Nat) : Int) ((rot x 18 : Nat) : Int)) ((x : Int) / 8) = ((sE x : Nat) : Int) := xor3 _ _ (x / 8) (rot_lt x 7 hx) (rot_lt x 18 hx) (by omega)
theorem sL_eq (x : Nat) (hx : x < 4294967296) : bits .xor .u32 (bits .xor .u32 ((rot x 17 : Nat) : Int) ((rot x 19 : Nat) : Int)) ((x : Int) / 1024) = ((sL x : Nat) : Int) := xor3 _ _ (x / 1024) (rot_lt x 17 hx) (rot_lt x 19 hx) (by omega)
theorem index_at (s : ByteArray) (p : Nat) (W : World) (h : p < s.size) : (Instr.index 9 (.string s) (.int .i64 (p : Int))).run Tryd.prog W = .ok (.int .u8 (byteAt (bl s) p)) W := by
  rw [run_index_string W 9 s .i64 p Tryd.underlying9, dif_pos ⟨by omega, by omega⟩]
  have e : (s[((p : Int)).toNat]'(by omega)).toNat = byteAt (bl s) p := by
    unfold byteAt bl
    rw [List.getD_eq_getElem?_getD, Array.getElem?_toList, Array.getElem?_eq_getElem h]
    rfl
  rw [e]
set_option maxRecDepth 100000 in
set_option maxHeartbeats 1000000 in
theorem one_any (v : St) (s : ByteArray) (w : World) (hv : v.Ok) (hs : s.size = 64) :
    Calls Tryd.prog 20 #[.agg (rowOf .u32 8 (stAt v)), .agg (rowOf .u32 64 kAt), .string s] w fun e w' => e = .returned (.agg (rowOf .u32 8 (stAt (blockSt v (bl s))))) ∧ Below w.heap.size w w' := by
  go_enter Tryd.func20, Tryd.ntmps20
  go_wp2
  go_loopw [8, 9, 10] (fun i _ _ wr => OneSch v (bl s) w.heap.size w i wr) (fun i _ _ _ => 64 - (intOf i).toNat)
  case atStart => exact ⟨0, by omega, rfl, (one_start v w).as (fun j _ => by unfold wUpto; rw [if_neg (by omega)])⟩
  case round =>
    obtain ⟨k, hk, rfl, HM⟩ := hrel
    by_cases hk8 : k < 64
    · by_cases hk16 : k < 16
      · have d16 : decide ((k : Int) < 16) = true := by simp; omega
        have c0 := HM.2.2.2.1.num hk8
        have f0 := HM.2.2.2.1.free k
        have HH := Lib.hid HM
        clear HM
        obtain ⟨p0, h0⟩ : ∃ p, 4 * k = p := ⟨_, rfl⟩
        obtain ⟨p1, h1⟩ : ∃ p, p0 + 1 = p := ⟨_, rfl⟩
        obtain ⟨p2, h2⟩ : ∃ p, p0 + 2 = p := ⟨_, rfl⟩
        obtain ⟨p3, h3⟩ : ∃ p, p0 + 3 = p := ⟨_, rfl⟩
        have w0 : IntKind.i64.wrap (4 * (k : Int)) = (p0 : Int) := by rw [IntWalk.i64_in _ (by omega)]; omega
        have w1 : IntKind.i64.wrap ((p0 : Int) + 1) = (p1 : Int) := by rw [IntWalk.i64_in _ (by omega)]; omega
        have w2 : IntKind.i64.wrap ((p0 : Int) + 2) = (p2 : Int) := by rw [IntWalk.i64_in _ (by omega)]; omega
        have w3 : IntKind.i64.wrap ((p0 : Int) + 3) = (p3 : Int) := by rw [IntWalk.i64_in _ (by omega)]; omega
        have l0 := fun W => index_at s p0 W (by omega)
        have l1 := fun W => index_at s p1 W (by omega)
        have l2 := fun W => index_at s p2 W (by omega)
        have l3 := fun W => index_at s p3 W (by omega)
        have HW : Hid (wAt (bl s) k = byteAt (bl s) p0 * 16777216 + byteAt (bl s) p1 * 65536 + byteAt (bl s) p2 * 256 + byteAt (bl s) p3) := by
          show _ = _
          rw [wAt_lo _ _ hk16, ← h1, ← h2, ← h3, ← h0]
          rfl
        have b0 := byteAt_lt (bl s) p0
        have b1 := byteAt_lt (bl s) p1
        have b2 := byteAt_lt (bl s) p2
        have b3 := byteAt_lt (bl s) p3
        generalize byteAt (bl s) p0 = x0 at l0 b0 HW
        generalize byteAt (bl s) p1 = x1 at l1 b1 HW
        generalize byteAt (bl s) p2 = x2 at l2 b2 HW
        generalize byteAt (bl s) p3 = x3 at l3 b3 HW
        have hk2 : (k : Int) < 64 := by omega
        clear h1 h2 h3
        go_wp2
        refine wp_region_drawn_tail 31 (by kernel_rfl) (by kernel_rfl) ?_
        simp only [List.take_succ_cons, List.take_zero, List.drop_succ_cons, List.drop_zero]
        repeat (go_big_quiet_step (fail))
        refine wpQuiet_nil ?_
        rintro _ ⟨nq, rfl⟩
        go_wp2
        go_roundw
        case rel =>
          refine ⟨k + 1, by omega, by go_num, ?_⟩
          have e : ((x0 : Int) * 16777216 + (x1 : Int) * 65536 + (x2 : Int) * 256 + (x3 : Int)) = ((wAt (bl s) k : Nat) : Int) := by rw [HW.out]; omega
          rw [e]
          exact ((HH.out.drewN nq).set k (wAt (bl s) k)).as (fun j _ => wUpto_next (bl s) k j)
        case measure => simp [intOf]; omega
      · have d16 : decide ((k : Int) < 16) = false := by simp; omega
        obtain ⟨p2, e2⟩ : ∃ q, k - 2 = q := ⟨_, rfl⟩
        obtain ⟨p7, e7⟩ : ∃ q, k - 7 = q := ⟨_, rfl⟩
        obtain ⟨p15, e15⟩ : ∃ q, k - 15 = q := ⟨_, rfl⟩
        obtain ⟨p16, e16⟩ : ∃ q, k - 16 = q := ⟨_, rfl⟩
        have HN := Lib.hid (wAt_hi (bl s) k (by omega) hk8)
        rw [e2, e7, e15, e16] at HN
        have c2 : wr.cell? ⟨w.heap.size + 1 + 1 + 1, p2, none⟩ = some (.int .u32 (wAt (bl s) p2)) := by
          have := HM.2.2.2.1.num (j := p2) (by omega); rwa [wUpto_at (bl s) k p2 (by omega)] at this
        have c7 : wr.cell? ⟨w.heap.size + 1 + 1 + 1, p7, none⟩ = some (.int .u32 (wAt (bl s) p7)) := by
          have := HM.2.2.2.1.num (j := p7) (by omega); rwa [wUpto_at (bl s) k p7 (by omega)] at this
        have c15 : wr.cell? ⟨w.heap.size + 1 + 1 + 1, p15, none⟩ = some (.int .u32 (wAt (bl s) p15)) := by
          have := HM.2.2.2.1.num (j := p15) (by omega); rwa [wUpto_at (bl s) k p15 (by omega)] at this
        have c16 : wr.cell? ⟨w.heap.size + 1 + 1 + 1, p16, none⟩ = some (.int .u32 (wAt (bl s) p16)) := by
          have := HM.2.2.2.1.num (j := p16) (by omega); rwa [wUpto_at (bl s) k p16 (by omega)] at this
        have c0 := HM.2.2.2.1.num hk8
        have f0 := HM.2.2.2.1.free k
        have w2 : IntKind.i64.wrap ((k : Int) - 2) = (p2 : Int) := by rw [IntWalk.i64_in _ (by omega)]; omega
        have w7 : IntKind.i64.wrap ((k : Int) - 7) = (p7 : Int) := by rw [IntWalk.i64_in _ (by omega)]; omega
        have w15 : IntKind.i64.wrap ((k : Int) - 15) = (p15 : Int) := by rw [IntWalk.i64_in _ (by omega)]; omega
        have w16 : IntKind.i64.wrap ((k : Int) - 16) = (p16 : Int) := by rw [IntWalk.i64_in _ (by omega)]; omega
        have i2 : (p2 : Int) < 64 := by omega
        have i7 : (p7 : Int) < 64 := by omega
        have i15 : (p15 : Int) < 64 := by omega
        have i16 : (p16 : Int) < 64 := by omega
        have hk2 : (k : Int) < 64 := by omega
        have x2 := wAt_lt (bl s) p2
        have x15 := wAt_lt (bl s) p15
        have x7 := wAt_lt (bl s) p7
        have x16 := wAt_lt (bl s) p16
        have HH := Lib.hid HM
        clear HM e2 e7 e15 e16
        generalize wAt (bl s) p2 = y2 at HN c2 x2
        generalize wAt (bl s) p7 = y7 at HN c7 x7
        generalize wAt (bl s) p15 = y15 at HN c15 x15
        generalize wAt (bl s) p16 = y16 at HN c16 x16
        have eL := sL_eq y2 x2
        have eE := sE_eq y15 x15
        have lL := sL_lt y2 x2
        have lE := sE_lt y15 x15
        generalize sL y2 = z2 at HN eL lL
        generalize sE y15 = z15 at HN eE lE
        go_wp2
        refine wp_region_drawn_tail 29 (by kernel_rfl) (by kernel_rfl) ?_
        simp only [List.take_succ_cons, List.take_zero, List.drop_succ_cons, List.drop_zero]
        repeat (go_big_quiet_step ((go_at_call 25; exact Calls.quiet_of_same (same_sym (turn_int _ _ _ (by assumption) (by decide) (by decide))))))
        refine wpQuiet_nil ?_
        rintro _ ⟨nq, rfl⟩
        go_wp2
        go_roundw
        case rel =>
          refine ⟨k + 1, by omega, by go_num, ?_⟩
          have e : ((y16 : Int) + (z15 : Int) + (y7 : Int) + (z2 : Int)) % 4294967296 = ((wAt (bl s) k : Nat) : Int) := by rw [HN.out]; omega
          rw [e]
          exact ((HH.out.drewN nq).set k (wAt (bl s) k)).as (fun j _ => wUpto_next (bl s) k j)
        case measure => simp [intOf]; omega
    · obtain rfl : k = 64 := by omega
      have HI := Lib.hid (two_start v (bl s) w wr (HM.as (fun j hj => wUpto_at (bl s) 64 j hj)))
      have HV := Lib.hid HM.1
      clear HM
      go_wp2_with (first | (refine wpList_load_row rfl 37 (.tmp 3) rfl w.heap.size rfl 37 (rowOf .u32 8 (stAt v)) (0, 0) _ HV.out Tryd.underlying37 rfl (rsize34 _ _) ?_) | (refine wpList_store_row rfl 37 (.tmp 11) (.tmp 92) rfl _ (rowOf .u32 8 (stAt v)) rfl rfl 37 _ (heap_alloc_new _ _) (rsize34 _ _) (by rw [rowOf_size]; rfl) (rowOf_one _ _ _) ?_))
      generalize hw5 : World.setRow _ _ _ = w5
      have HI : Hid (TwoMem v (bl s) v wr.heap.size w w5) := by rw [← hw5]; exact HI
      clear hw5 HV
      generalize wr.heap.size = M at HI ⊢
      go_loopw [12, 13, 14, 15, 16] (fun i _ _ _ _ wr => TwoAt v (bl s) M w i wr) (fun i _ _ _ _ _ => 64 - (intOf i).toNat)
      case atStart => exact ⟨0, v, by omega, rfl, rfl, HI.out⟩
      case round =>
        clear HI
        obtain ⟨k, u, hk, rfl, hu, HM⟩ := hrel
        have hok := rounds_ok (sch (bl s) 64) hv k
        rw [hu] at hok
        by_cases hk8 : k < 64
        · have HS : Hid (rounds (sch (bl s) 64) v (k + 1) = round (kAt k) (wAt (bl s) k) u) := by
            show round (kAt k) (wAt (bl s) k) (rounds (sch (bl s) 64) v k) = _
            rw [hu]
          clear hu
          obtain ⟨ua, ub, uc, ud, ue, uf, ug, uh⟩ := u
          obtain ⟨b1, b2, b3, b4, b5, b6, b7, b8⟩ := hok
          simp only at b1 b2 b3 b4 b5 b6 b7 b8
          have ck := HM.2.1.num hk8
          have cw := HM.2.2.2.1.num hk8
          have bk := kAt_lt k hk8
          have bw := wAt_lt (bl s) k
          obtain ⟨c0, c1, c2, c3, c4, c5, c6, c7⟩ := HM.cells
          have hk2 : (k : Int) < 64 := by omega
          have eC := ch_sub ue uf ug b5 b6 b7
          have eM := maj_eq ua ub uc b1 b2 b3
          have eB := xor3 _ _ _ (rot_lt ue 6 b5) (rot_lt ue 11 b5) (rot_lt ue 25 b5)
          have eA := xor3 _ _ _ (rot_lt ua 2 b1) (rot_lt ua 13 b1) (rot_lt ua 22 b1)
          have lC := ch_lt ue uf ug b5
          have lM := maj_lt ua ub uc b1 b2
          have lB := bE_lt ue b5
          have lA := bA_lt ua b1
          unfold bE at lB
          unfold bA at lA
          have HR : Hid (round (kAt k) (wAt (bl s) k) ⟨ua, ub, uc, ud, ue, uf, ug, uh⟩ = roundN (kAt k) (wAt (bl s) k) (ch ue uf ug) (maj ua ub uc) (rot ue 6 ^^^ rot ue 11 ^^^ rot ue 25) (rot ua 2 ^^^ rot ua 13 ^^^ rot ua 22) ⟨ua, ub, uc, ud, ue, uf, ug, uh⟩) := Lib.hid rfl
          have HH := Lib.hid HM
          clear HM
          generalize kAt k = kk at ck bk HS HR
          generalize wAt (bl s) k = ww at cw bw HS HR
          generalize ch ue uf ug = cv at eC lC HR
          generalize maj ua ub uc = mv at eM lM HR
          generalize rot ue 6 ^^^ rot ue 11 ^^^ rot ue 25 = be at eB lB HR
          generalize rot ua 2 ^^^ rot ua 13 ^^^ rot ua 22 = ba at eA lA HR
          go_wp2
          go_quiet ((go_at_call 25; exact Calls.quiet_of_same (same_sym (turn_int _ _ _ (by assumption) (by decide) (by decide)))))
          have HH := Lib.hid (HH.out.drewN nq)
          clear c0 c1 c2 c3 c4 c5 c6 c7 ck cw
          generalize wr.drewN nq = w8 at HH ⊢
          obtain ⟨c0, c1, c2, c3, c4, c5, c6, c7⟩ := HH.out.cells
          go_wp2
          go_quiet ((go_at_call 25; exact Calls.quiet_of_same (same_sym (turn_int _ _ _ (by assumption) (by decide) (by decide)))))
          have HH := Lib.hid (HH.out.drewN nq)
          clear c0 c1 c2 c3 c4 c5 c6 c7
          generalize w8.drewN nq = w9 at HH ⊢
          obtain ⟨c0, c1, c2, c3, c4, c5, c6, c7⟩ := HH.out.cells
          have hMU := HH.out.2.2.2.2.1
          go_wp2_with (refine wpList_store_row rfl 37 (.tmp 11) (.tmp 182) rfl M (rowOf .u32 8 (stAt (round kk ww ⟨ua, ub, uc, ud, ue, uf, ug, uh⟩))) rfl ?e1 37 _ hMU (rsize34 _ _) (by rw [rowOf_size, rowOf_size]) (rowOf_one _ _ _) ?_)
          case e1 =>
            rw [HR.out]
            exact congrArg Value.agg (row8_round _ _ kk ww cv mv be ba ua ub uc ud ue uf ug uh (by omega) (by omega))
          go_roundw
          case rel => exact ⟨k + 1, _, by omega, by go_num, HS.out, HH.out.row _⟩
          case measure => simp [intOf]; omega
        · obtain rfl : k = 64 := by omega
          have HE : Hid (blockSt v (bl s) = addSt v u) := by
            show addSt v (rounds (sch (bl s) 64) v 64) = _
            rw [hu]
          clear hu
          have HI := Lib.hid (three_start HM)
          clear HM
          go_wp2
          go_loopw [17] (fun i wr => ThreeAt v u M w i wr) (fun i _ => 8 - (intOf i).toNat)
          case atStart => exact HI.out
          case round =>
            clear HI
            obtain ⟨k, hk, rfl, HM⟩ := hrel
            by_cases hk8 : k < 8
            · have cv := HM.1.num hk8
              have cu := HM.2.2.1.num hk8
              have fu := HM.2.2.1.free k
              rw [addF_at v u k] at cu
              have lv := stAt_lt2 hv k
              have lu := stAt_lt2 hok k
              have hk2 : (k : Int) < 8 := by omega
              have HN := Lib.hid (fun n => three_next hk8 HM n)
              clear HM
              generalize stAt v k = x at cv lv HN
              generalize stAt u k = y at cu lu HN
              go_wp2
              refine wp_region_drawn_tail 9 (by kernel_rfl) (by kernel_rfl) ?_
              simp only [List.take_succ_cons, List.take_zero, List.drop_succ_cons, List.drop_zero]
              repeat (go_big_quiet_step (fail))
              refine wpQuiet_nil ?_
              rintro _ ⟨nq, rfl⟩
              go_wp2
              go_roundw
              case rel => exact HN.out nq
              case measure => simp [intOf]; omega
            · obtain rfl : k = 8 := by omega
              have hU : Holds wr M (rowOf .u32 8 (stAt (addSt v u))) 37 := by
                have := HM.2.2.1
                rwa [rowOf_congr (k := .u32) (addF_done v u)] at this
              have hR := HM.2.1
              have hB := HM.2.2.2.1
              clear HM
              go_wp2_with (first | (refine wpList_load_row rfl 37 (.tmp 11) rfl M rfl 37 (rowOf .u32 8 (stAt (addSt v u))) (0, 0) _ hU Tryd.underlying37 rfl (rsize34 _ _) ?_) | (refine wpList_store_row rfl 37 (.tmp 6) (.tmp 196) rfl (w.heap.size + 1 + 1) (rowOf .u32 8 (stAt (addSt v u))) rfl rfl 37 _ hR (rsize34 _ _) (by rw [rowOf_size, rowOf_size]) (rowOf_one _ _ _) ?_))
              refine bodyPost_ret (v := .agg (rowOf .u32 8 (stAt (addSt v u)))) (results_cell_row Tryd.results20 _ _ (w.heap.size + 1 + 1) 37 _ (0, 0) _ rfl (hR.row _) Tryd.underlying37 rfl (rsize34 _ _)) rfl ⟨?_, below_row hB _ _ (by omega)⟩
              rw [HE.out]
end Go.Proofs.YtnndifkilcommaaDoor.Sha
