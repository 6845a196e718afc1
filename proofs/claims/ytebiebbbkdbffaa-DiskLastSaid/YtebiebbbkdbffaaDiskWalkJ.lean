/-
  Walks of slices.Repeat, zeros, New (the program's).
-/
import Derived.Test.YtebiebbbkdbffaaDiskWalkI
import Derived.Laws.CopyOwn
import Derived.Deep.RegionHeld3
namespace Go.Proofs.Ytebiebbbkdbffaa.Disk
open Go Go.RowKit
open Go.Proofs.Ytebiebbbkdbffaa.Sha (wp_region_drawn_tail wp_region_kept_tail quiet_load_row)

theorem infoStr : (Try.prog.info? 9).map (fun i => (i.zero, i.size, i.bytes)) = some (some (.string ⟨#[]⟩), 1, 16) := by kernel_rfl
theorem sizeStr : (Try.prog.info? 9).map (·.size) = some 1 := by kernel_rfl
theorem made_strs (n : Nat) : madeCells (Value.string ⟨#[]⟩).cells n = strs (List.replicate n ⟨#[]⟩) := by
  show madeCells #[.string ⟨#[]⟩] n = _
  apply Array.ext_getElem?
  intro j
  by_cases hj : j < n
  · rw [strs_get (by simpa using hj), Array.getElem?_eq_getElem (by rw [size_madeCells]; exact hj)]
    unfold madeCells at0
    simp [Nat.mod_one, hj, List.getD_eq_getElem?_getD]
  · rw [Array.getElem?_eq_none (by rw [size_madeCells]; omega), Array.getElem?_eq_none (by rw [strs_size, List.length_replicate]; omega)]
theorem make_strs (n : Nat) (hn : n ≤ 100000) (W : World) : (Instr.makeSlice 30 (.int .i64 n) (.int .i64 n)).run Try.prog W = .ok (.slice (some ⟨W.heap.size, 0, none⟩) n n) (W.alloc (.cells (strs (List.replicate n ⟨#[]⟩)) strT)) := by
  obtain ⟨i, hi, hz0, hz1, hz2⟩ := info_parts infoStr
  have h := run_make (P := Try.prog) W 30 strT i (.string ⟨#[]⟩) Try.underlying30 hi hz0 .i64 .i64 n n (by omega) (by omega) (by rw [hz2]; omega) (by omega)
  rw [h, hz1, Int.toNat_natCast, Nat.mul_one, made_strs]
/-- The first m are there, the others are empty. -/
def some? (s : ByteArray) (n m : Nat) : List ByteArray := List.replicate m s ++ List.replicate (n - m) ⟨#[]⟩
theorem some_length (s : ByteArray) {n m : Nat} (h : m ≤ n) : (some? s n m).length = n := by unfold some?; simp; omega
theorem some_all (s : ByteArray) (n : Nat) : some? s n n = List.replicate n s := by unfold some?; simp
theorem some_none (s : ByteArray) (n : Nat) : some? s n 0 = List.replicate n ⟨#[]⟩ := by unfold some?; simp
theorem some_splice (s : ByteArray) (n m k : Nat) (h : m + k ≤ n) : splice ((some? s n m).map Value.string) m (List.replicate k (.string s)) = (some? s n (m + k)).map Value.string := by
  unfold splice some?
  rw [List.length_replicate]
  simp only [List.map_append, List.map_replicate]
  rw [List.take_left' (by simp), List.drop_append, List.drop_replicate, List.drop_replicate, List.length_replicate, show m - (m + k) = 0 by omega, show n - m - (m + k - m) = n - (m + k) by omega, ← List.append_assoc, List.replicate_append_replicate]
  rfl
theorem some_get (s : ByteArray) {n m i : Nat} (h : i < m) (hm : m ≤ n) : (strs (some? s n m))[i]? = some (.string s) := by
  rw [strs_get (by rw [some_length s hm]; omega)]
  unfold at0 some?
  rw [List.getD_eq_getElem?_getD, List.getElem?_append_left (by simpa using h), List.getElem?_replicate, if_pos h]
  rfl
theorem strs_list (L : List ByteArray) : strs L = (L.map Value.string).toArray := rfl
theorem some_succ {s : ByteArray} {n m k : Nat} {w' : World} {b : Nat} (h : m + k ≤ n) (hh : Hid (w'.heap[b]? = some (.cells (splice ((some? s n m).map Value.string) m (List.replicate k (.string s))).toArray strT (0, 0)))) : Lies w' b (strs (some? s n (m + k))) strT := by
  have := hh.out
  rw [some_splice s n m k h] at this
  exact this
theorem wrap_at {x : Int} (h1 : -9223372036854775808 ≤ x) (h2 : x ≤ 9223372036854775807) : IntKind.i64.wrap x = x := by
  rw [IntKind.wrap_i64]
  omega
set_option maxRecDepth 100000 in
set_option maxHeartbeats 1000000 in
theorem repeat_any (w : World) (xb n : Nat) (s : ByteArray) (hx : w.cell? ⟨xb, 0, none⟩ = some (.string s)) (h1 : 1 ≤ n) (h2 : n ≤ 100000) :
    Calls Try.prog 34 #[.slice (some ⟨xb, 0, none⟩) 1 1, .int .i64 n] w fun e w' => e = .returned (.slice (some ⟨w.heap.size, 0, none⟩) n n) ∧ Lies w' w.heap.size (strs (List.replicate n s)) strT ∧ Below w.heap.size w w' := by
  have HM := Lib.hid (Try.bits_Mul 1 n (by omega) (by omega) w)
  rw [show ((1 * n / 18446744073709551616 : Nat) : Int) = 0 by rw [Nat.div_eq_of_lt (by omega)]; rfl, show ((1 * n % 18446744073709551616 : Nat) : Int) = (n : Int) by rw [Nat.mod_eq_of_lt (by omega), Nat.one_mul]] at HM
  have hmk := make_strs n h2
  have hxb : xb < w.heap.size := World.block_lt_of_cell? w _ hx
  have HB0 : Hid (Below w.heap.size w (w.alloc (.cells (strs (List.replicate n ⟨#[]⟩)) strT))) := (Below.refl _ _).alloc (Nat.le_refl _) _
  have HL0 : Hid (Lies (w.alloc (.cells (strs (List.replicate n ⟨#[]⟩)) strT)) w.heap.size ((some? s n 0).map Value.string).toArray strT) := by
    rw [some_none]; exact Lies.new _ _ _
  have HX0 : Hid ((w.alloc (.cells (strs (List.replicate n ⟨#[]⟩)) strT)).cell? ⟨xb, 0, none⟩ = some (.string s)) := (HB0.out.cell (p := ⟨xb, 0, none⟩) hxb).trans hx
  go_enter Try.func34, Try.ntmps34
  go_wp2_with fail
  refine HM.out.mono ?_
  rintro e w' ⟨rfl, rfl⟩
  go_wp2_with (refine wpList_copy_splice rfl (.tmp 31) (.tmp 32) 30 30 rfl strT Try.underlying30 sizeStr (some ⟨w'.heap.size, 0, none⟩) (some ⟨xb, 0, none⟩) n n 1 1 rfl rfl w'.heap.size 0 ((some? s n 0).map Value.string) strT HL0.out (List.replicate 1 (.string s)) (by show 1 = Nat.min 1 n; exact (Nat.min_eq_left h1).symm) (fun _ => ⟨rfl, _, rfl, fun j v hj => by
    match j, hj with
    | 0, hj => obtain rfl : Value.string s = v := by simpa using hj
               exact HX0.out
    | j + 1, hj => simp at hj⟩) (by rw [List.length_map, some_length s (Nat.zero_le _)]; simpa using h1) (by simp [Value.oneCell']) w'.heap.size w' HB0.out (Nat.le_refl _) ?_; intro w2 hL2 hB2)
  have HS : Hid (Lies w2 w'.heap.size (strs (some? s n 1)) strT ∧ Below w'.heap.size w' w2) := ⟨some_succ (m := 0) (k := 1) (by omega) hL2, hB2⟩
  clear hL2 hB2 HL0 HX0 HB0 hx
  go_loopw [8] (fun i wr => ∃ m : Nat, 1 ≤ m ∧ m ≤ n ∧ i = .int .i64 m ∧ Lies wr w'.heap.size (strs (some? s n m)) strT ∧ Below w'.heap.size w' wr) (fun i _ => n - (intOf i).toNat)
  case atStart => exact ⟨1, Nat.le_refl _, h1, rfl, HS.out⟩
  case round =>
    obtain ⟨m, hm1, hm2, rfl, hL, hB⟩ := hrel
    have HH := Lib.hid (And.intro hL hB)
    clear hL hB
    by_cases hlt : m < n
    · obtain ⟨q, hq⟩ : ∃ q, q = Nat.min m (n - m) := ⟨_, rfl⟩
      have hq1 : q ≤ m := by rw [hq]; exact Nat.min_le_left _ _
      have hq2 : q ≤ n - m := by rw [hq]; exact Nat.min_le_right _ _
      have hq3 : 1 ≤ q := by rw [hq]; exact Nat.le_min.2 ⟨hm1, by omega⟩
      have HQ := Lib.hid hq
      clear hq
      have hm0 : (m : Int) < (n : Int) := by omega
      have HL : Hid (wr.drew.heap[w'.heap.size]? = some (.cells ((some? s n m).map Value.string).toArray strT (0, 0))) := HH.out.1
      have HC : Hid (∀ (j : Nat) (v : Value), (List.replicate q (Value.string s))[j]? = some v → wr.drew.cell? ((⟨w'.heap.size, 0, none⟩ : Addr).add j) = some v) := fun j v hj => by
        rw [addr_add, Nat.zero_add]
        rw [List.getElem?_replicate] at hj
        split at hj
        · have h3 : Lies wr.drew w'.heap.size (strs (some? s n m)) strT := HH.out.1
          rw [h3.cell j, some_get s (by omega) hm2]
          exact hj
        · cases hj
      have HBd : Hid (Below w'.heap.size w' wr.drew) := HH.out.2.drew
      have HF : Hid (m + (List.replicate q (Value.string s)).length ≤ ((some? s n m).map Value.string).length) := by
        show _ ≤ _
        rw [List.length_map, some_length s hm2, List.length_replicate]
        omega
      have HN : Hid ((List.replicate q (Value.string s)).length = Nat.min m (n - m)) := by
        show _ = _
        rw [List.length_replicate]
        exact HQ.out
      have HO : Hid (∀ v ∈ List.replicate q (Value.string s), v.oneCell' = true) := fun v hv => by
        obtain ⟨_, rfl⟩ := List.mem_replicate.1 hv
        rfl
      have HNE : Hid (¬ n = m) := fun e => by omega
      go_wp2_with fail
      go_region_held3 (fun _ => True) (trivial) ((refine step_copy_splice (by rfl) _ _ _ _ (by rfl) strT Try.underlying30 sizeStr (if n = m then some ⟨w'.heap.size, 0, none⟩ else some ⟨w'.heap.size, m, none⟩) (some ⟨w'.heap.size, 0, none⟩) (n - m) (n - m) m n (by rfl) (by rfl) w'.heap.size m ((some? s n m).map Value.string) strT HL.out (List.replicate q (.string s)) HN.out (fun _ => ⟨if_neg HNE.out, _, rfl, HC.out⟩) HF.out HO.out w'.heap.size w' HBd.out (Nat.le_refl _) ?_; intro w3 hL3 hB3))
      have HS : Hid (Lies w3 w'.heap.size (strs (some? s n (m + q))) strT ∧ Below w'.heap.size w' w3) := ⟨some_succ (by omega) hL3, hB3⟩
      clear hL3 hB3
      go_wp2_with fail
      go_roundw
      case rel => exact ⟨m + q, by omega, by omega, by rw [wrap_at (by omega) (by omega)]; simp, HS.out⟩
      case measure => rw [wrap_at (by omega) (by omega)]; simp [intOf]; omega
    · obtain rfl : m = n := by omega
      have HZ : Hid (Lies wr w'.heap.size (strs (List.replicate m s)) strT) := by rw [← some_all]; exact HH.out.1
      go_wp2_with fail
      go_ret
      exact ⟨rfl, HZ.out, HH.out.2⟩
end Go.Proofs.Ytebiebbbkdbffaa.Disk
