/-
  A block.
-/
import Derived.Test.YtnndifkilcommaaDoorShaWalkA
namespace Go.Proofs.YtnndifkilcommaaDoor.Sha
open Go.RowKit

/-- The table of the rounds' constants lies in its place. -/
def Tab (w : World) : Prop := 0 < w.heap.size ∧ ∀ t, t < 64 → w.cell? ⟨0, t, none⟩ = some (.int .u32 (kAt t))
theorem Tab.below {w w' : World} {B : Nat} (h : Tab w) (hb : Below B w w') (hB : 0 < B) : Tab w' :=
  ⟨Nat.lt_of_lt_of_le h.1 hb.size, fun t ht => by rw [hb.cell (p := ⟨0, t, none⟩) hB]; exact h.2 t ht⟩
theorem Tab.next {w w' : World} (h : Tab w) (hb : Below w.heap.size w w') : Tab w' := h.below hb h.1
theorem Tab.drewN {w : World} (h : Tab w) (n : Nat) : Tab (w.drewN n) := h.next (below_drewN (Below.refl _ _) n)
def stAt (v : St) (j : Nat) : Nat := match j with | 0 => v.a | 1 => v.b | 2 => v.c | 3 => v.d | 4 => v.e | 5 => v.f | 6 => v.g | 7 => v.h | _ => 0
structure St.Ok (v : St) : Prop where
  a : v.a < 4294967296
  b : v.b < 4294967296
  c : v.c < 4294967296
  d : v.d < 4294967296
  e : v.e < 4294967296
  f : v.f < 4294967296
  g : v.g < 4294967296
  h : v.h < 4294967296
theorem round_ok (k w : Nat) {u : St} (h : u.Ok) : (round k w u).Ok :=
  ⟨Nat.mod_lt _ (by decide), h.a, h.b, h.c, Nat.mod_lt _ (by decide), h.e, h.f, h.g⟩
theorem rounds_ok (l : List Nat) {v : St} (h : v.Ok) : ∀ k, (rounds l v k).Ok
  | 0 => h
  | k + 1 => round_ok _ _ (rounds_ok l h k)
theorem addSt_ok (v u : St) : (addSt v u).Ok :=
  ⟨Nat.mod_lt _ (by decide), Nat.mod_lt _ (by decide), Nat.mod_lt _ (by decide), Nat.mod_lt _ (by decide), Nat.mod_lt _ (by decide), Nat.mod_lt _ (by decide), Nat.mod_lt _ (by decide), Nat.mod_lt _ (by decide)⟩
theorem blockSt_ok (v : St) (b : List UInt8) : (blockSt v b).Ok := addSt_ok _ _
theorem kAt_lt (t : Nat) (h : t < 64) : kAt t < 4294967296 := by
  have : ∀ t, t < 64 → kAt t < 4294967296 := by decide +kernel
  exact this t h

/-- The memory while a block's rounds go on. -/
def Trans (v : St) (b : List UInt8) (M : Nat) (w wr : World) : Prop :=
  Holds wr w.heap.size (rowOf .u32 8 (stAt v)) 37 ∧ Holds wr (w.heap.size + 1 + 1) (rowOf .u32 8 fun _ => 0) 37 ∧ Holds wr M (rowOf .u32 64 (wAt b)) 39 ∧ Tab wr ∧ Below w.heap.size w wr ∧ w.heap.size + 1 + 1 < M
theorem Trans.drewN {v : St} {b : List UInt8} {M : Nat} {w wr : World} (h : Trans v b M w wr) (n : Nat) : Trans v b M w (wr.drewN n) :=
  ⟨h.1.drewN n, h.2.1.drewN n, h.2.2.1.drewN n, h.2.2.2.1.drewN n, below_drewN h.2.2.2.2.1 n, h.2.2.2.2.2⟩
def RoundAt (v : St) (b : List UInt8) (M : Nat) (w : World) (sa sb sc sd se sf sg sh i : Value) (wr : World) : Prop :=
  ∃ k : Nat, ∃ u : St, k ≤ 64 ∧ i = .int .i64 k ∧ rounds (sch b 64) v k = u ∧ sa = .int .u32 u.a ∧ sb = .int .u32 u.b ∧ sc = .int .u32 u.c ∧ sd = .int .u32 u.d ∧ se = .int .u32 u.e ∧ sf = .int .u32 u.f ∧ sg = .int .u32 u.g ∧ sh = .int .u32 u.h ∧ Trans v b M w wr

theorem trans_start (v : St) (b : List UInt8) (w w4 : World) (ht : Tab w)
    (hb : Below (((w.alloc (.cells (rowOf .u32 8 (stAt v)) 37)).alloc (.cells (rowOf .u8 64 (byteAt b)) 33)).alloc (.cells (rowOf .u32 8 fun _ => 0) 37)).heap.size (((w.alloc (.cells (rowOf .u32 8 (stAt v)) 37)).alloc (.cells (rowOf .u8 64 (byteAt b)) 33)).alloc (.cells (rowOf .u32 8 fun _ => 0) 37)) w4) :
    Trans v b w4.heap.size w ((w4.alloc (.cells (rowOf .u32 64 fun _ => 0) 39)).setRow w4.heap.size (rowOf .u32 64 (wAt b))) := by
  have s1 : (w.alloc (.cells (rowOf .u32 8 (stAt v)) 37)).heap.size = w.heap.size + 1 := by simp
  have s2 : ((w.alloc (.cells (rowOf .u32 8 (stAt v)) 37)).alloc (.cells (rowOf .u8 64 (byteAt b)) 33)).heap.size = w.heap.size + 1 + 1 := by simp
  have s3 : (((w.alloc (.cells (rowOf .u32 8 (stAt v)) 37)).alloc (.cells (rowOf .u8 64 (byteAt b)) 33)).alloc (.cells (rowOf .u32 8 fun _ => 0) 37)).heap.size = w.heap.size + 1 + 1 + 1 := by simp
  have hz := hb.size
  rw [s3] at hz
  have h0 : Holds (((w.alloc (.cells (rowOf .u32 8 (stAt v)) 37)).alloc (.cells (rowOf .u8 64 (byteAt b)) 33)).alloc (.cells (rowOf .u32 8 fun _ => 0) 37)) w.heap.size (rowOf .u32 8 (stAt v)) 37 := ((Holds.new w _ _).alloc _).alloc _
  have h2 : Holds (((w.alloc (.cells (rowOf .u32 8 (stAt v)) 37)).alloc (.cells (rowOf .u8 64 (byteAt b)) 33)).alloc (.cells (rowOf .u32 8 fun _ => 0) 37)) (w.heap.size + 1 + 1) (rowOf .u32 8 fun _ => 0) 37 := by rw [← s2]; exact Holds.new _ _ _
  have hw : Below w.heap.size w (((w.alloc (.cells (rowOf .u32 8 (stAt v)) 37)).alloc (.cells (rowOf .u8 64 (byteAt b)) 33)).alloc (.cells (rowOf .u32 8 fun _ => 0) 37)) :=
    (((Below.refl _ _).alloc (Nat.le_refl _) _).alloc (by rw [s1]; omega) _).alloc (by rw [s2]; omega) _
  have hwb : Below w.heap.size w ((w4.alloc (.cells (rowOf .u32 64 fun _ => 0) 39)).setRow w4.heap.size (rowOf .u32 64 (wAt b))) :=
    below_row ((hw.trans (hb.mono (by rw [s3]; omega))).alloc (by omega) _) _ _ (by omega)
  refine ⟨((h0.below hb (by rw [s3]; omega)).alloc _).row_other _ (by omega), ((h2.below hb (by rw [s3]; omega)).alloc _).row_other _ (by omega), (Holds.new _ _ _).row _, ht.next hwb, hwb, by omega⟩

theorem Trans.c {v : St} {b : List UInt8} {M : Nat} {w wr : World} (h : Trans v b M w wr) :
    wr.cell? ⟨w.heap.size, 0, none⟩ = some (.int .u32 v.a) ∧ wr.cell? ⟨w.heap.size, 1, none⟩ = some (.int .u32 v.b) ∧ wr.cell? ⟨w.heap.size, 2, none⟩ = some (.int .u32 v.c) ∧ wr.cell? ⟨w.heap.size, 3, none⟩ = some (.int .u32 v.d) ∧
    wr.cell? ⟨w.heap.size, 4, none⟩ = some (.int .u32 v.e) ∧ wr.cell? ⟨w.heap.size, 5, none⟩ = some (.int .u32 v.f) ∧ wr.cell? ⟨w.heap.size, 6, none⟩ = some (.int .u32 v.g) ∧ wr.cell? ⟨w.heap.size, 7, none⟩ = some (.int .u32 v.h) :=
  ⟨h.1.num (j := 0) (by decide), h.1.num (j := 1) (by decide), h.1.num (j := 2) (by decide), h.1.num (j := 3) (by decide), h.1.num (j := 4) (by decide), h.1.num (j := 5) (by decide), h.1.num (j := 6) (by decide), h.1.num (j := 7) (by decide)⟩
theorem row8 (a b c d e f g h : Nat) : (#[.int .u32 a, .int .u32 b, .int .u32 c, .int .u32 d, .int .u32 e, .int .u32 f, .int .u32 g, .int .u32 h] : Array Value) = rowOf .u32 8 (stAt ⟨a, b, c, d, e, f, g, h⟩) := rfl
theorem row8_block (v : St) (b : List UInt8) (ua ub uc ud ue uf ug uh : Nat) (HE : Hid (rounds (sch b 64) v 64 = ⟨ua, ub, uc, ud, ue, uf, ug, uh⟩)) :
    (#[.int .u32 (((v.a : Int) + ua) % 4294967296), .int .u32 (((v.b : Int) + ub) % 4294967296), .int .u32 (((v.c : Int) + uc) % 4294967296), .int .u32 (((v.d : Int) + ud) % 4294967296), .int .u32 (((v.e : Int) + ue) % 4294967296), .int .u32 (((v.f : Int) + uf) % 4294967296), .int .u32 (((v.g : Int) + ug) % 4294967296), .int .u32 (((v.h : Int) + uh) % 4294967296)] : Array Value) = rowOf .u32 8 (stAt (blockSt v b)) := by
  unfold blockSt
  rw [HE.out]
  exact row8 _ _ _ _ _ _ _ _
set_option maxRecDepth 100000 in
set_option maxHeartbeats 1000000 in
theorem transform_any (v : St) (b : List UInt8) (w : World) (hv : v.Ok) (ht : Tab w) :
    Calls Tryd.prog 27 #[.agg (rowOf .u32 8 (stAt v)), .agg (rowOf .u8 64 (byteAt b))] w fun e w' => e = .returned (.agg (rowOf .u32 8 (stAt (blockSt v b)))) ∧ Below w.heap.size w w' := by
  have h2 : Holds (((w.alloc (.cells (rowOf .u32 8 (stAt v)) 37)).alloc (.cells (rowOf .u8 64 (byteAt b)) 33)).alloc (.cells (rowOf .u32 8 fun _ => 0) 37)) (w.heap.size + 1) (rowOf .u8 64 (byteAt b)) 33 := by
    have s1 : (w.alloc (.cells (rowOf .u32 8 (stAt v)) 37)).heap.size = w.heap.size + 1 := by simp
    rw [← s1]; exact (Holds.new _ _ _).alloc _
  have HT := Lib.hid ht
  clear ht
  go_enter Tryd.func27, Tryd.ntmps27
  go_wp2_with (first | (refine wpList_load_row rfl 33 _ rfl (w.heap.size + 1) rfl 33 (rowOf .u8 64 (byteAt b)) (0, 0) _ h2 Tryd.underlying33 rfl (rsize43 _ _) ?_) | (go_at_call 30; refine (schedule_any b _).mono ?_; rintro e w4 ⟨rfl, hb4⟩) | (refine wpList_store_row rfl 39 _ _ rfl _ (rowOf .u32 64 (wAt b)) rfl rfl 39 _ (heap_alloc_new _ _) (rsize36 _ _) (by rw [rowOf_size]; rfl) (rowOf_one _ _ _) ?_))
  have HR := Lib.hid (trans_start v b w w4 HT.out hb4)
  clear hb4 h2
  generalize hw5 : World.setRow _ _ _ = w5
  have HR : Hid (Trans v b w4.heap.size w w5) := by rw [← hw5]; exact HR
  clear hw5
  generalize w4.heap.size = M at HR ⊢
  obtain ⟨c0, c1, c2, c3, c4, c5, c6, c7⟩ := HR.out.c
  go_quiet (fail)
  have HR := Lib.hid (HR.out.drewN nq)
  clear c0 c1 c2 c3 c4 c5 c6 c7
  generalize w5.drewN nq = w6 at HR ⊢
  obtain ⟨c0, c1, c2, c3, c4, c5, c6, c7⟩ := HR.out.c
  go_wp2
  go_quiet (fail)
  have HR := Lib.hid (HR.out.drewN nq)
  clear c0 c1 c2 c3 c4 c5 c6 c7
  generalize w6.drewN nq = w7 at HR ⊢
  go_wp2
  go_loopw [6, 7, 8, 9, 10, 11, 12, 13, 35] (fun a b' c d e f g h i wr => RoundAt v b M w a b' c d e f g h i wr) (fun _ _ _ _ _ _ _ _ i _ => 64 - (intOf i).toNat)
  case atStart => exact ⟨0, v, by omega, rfl, rfl, rfl, rfl, rfl, rfl, rfl, rfl, rfl, rfl, HR.out⟩
  case round =>
    clear HR
    obtain ⟨k, u, hk, rfl, hu, rfl, rfl, rfl, rfl, rfl, rfl, rfl, rfl, HR⟩ := hrel
    have hok := rounds_ok (sch b 64) hv k
    have HS : Hid (rounds (sch b 64) v (k + 1) = round (kAt k) (wAt b k) u) := by
      show round (kAt k) (wAt b k) (rounds (sch b 64) v k) = _
      rw [hu]
    rw [hu] at hok
    have HU := Lib.hid hu
    clear hu
    obtain ⟨ua, ub, uc, ud, ue, uf, ug, uh⟩ := u
    obtain ⟨b1, b2, b3, b4, b5, b6, b7, b8⟩ := hok
    simp only at b1 b2 b3 b4 b5 b6 b7 b8
    by_cases hk8 : k < 64
    · have ct := HR.2.2.2.1.2 k hk8
      have cw := HR.2.2.1.num hk8
      have hk2 : (k : Int) < 64 := by omega
      have HH := Lib.hid HR
      clear HR
      go_wp2
      go_quiet ((first | (go_at_call 31; exact Calls.quiet_of_same (same_sym (bE_any _ _ (by assumption)))) | (go_at_call 32; exact Calls.quiet_of_same (same_sym (ch_any _ _ _ _ (by assumption) (by assumption) (by assumption))))))
      have HR := Lib.hid (HH.out.drewN nq)
      clear ct cw HH
      generalize wr.drewN nq = w8 at HR ⊢
      go_wp2_with (first | (go_at_call 33; refine (bA_any _ _ (by assumption)).mono ?_; rintro e w' ⟨rfl, rfl⟩) | (go_at_call 34; refine (maj_any _ _ _ _ (by assumption) (by assumption) (by assumption)).mono ?_; rintro e w' ⟨rfl, rfl⟩))
      go_roundw
      case rel =>
        exact ⟨k + 1, round (kAt k) (wAt b k) ⟨ua, ub, uc, ud, ue, uf, ug, uh⟩, by omega, by go_num, HS.out, int_eq (by simp only [round, tOne, tTwo]; omega), rfl, rfl, rfl, int_eq (by simp only [round, tOne]; omega), rfl, rfl, rfl, HR.out⟩
      case measure => simp [intOf]; omega
    · have HE : Hid (rounds (sch b 64) v 64 = ⟨ua, ub, uc, ud, ue, uf, ug, uh⟩) := by
        have e : k = 64 := by omega
        rw [← HU.out, e]
        exact Lib.hid rfl
      clear HU HS
      obtain ⟨c0, c1, c2, c3, c4, c5, c6, c7⟩ := HR.c
      have h2 := HR.2.1
      have HH := Lib.hid HR
      clear HR
      go_wp2_with (first | (refine wpList_store_row rfl 37 _ _ rfl (w.heap.size + 1 + 1) (rowOf .u32 8 (stAt (blockSt v b))) rfl ?e1 37 _ h2 (rsize34 _ _) (by rw [rowOf_size, rowOf_size]) (rowOf_one _ _ _) ?_))
      case e1 => exact congrArg Value.agg (row8_block v b ua ub uc ud ue uf ug uh HE)
      exact bodyPost_ret (v := .agg (rowOf .u32 8 (stAt (blockSt v b)))) (results_cell_row Tryd.results27 _ _ (w.heap.size + 1 + 1) 37 _ (0, 0) _ rfl (h2.row _) Tryd.underlying37 rfl (rsize34 _ _)) rfl ⟨rfl, below_row HH.out.2.2.2.2.1 _ _ (by omega)⟩
end Go.Proofs.YtnndifkilcommaaDoor.Sha
