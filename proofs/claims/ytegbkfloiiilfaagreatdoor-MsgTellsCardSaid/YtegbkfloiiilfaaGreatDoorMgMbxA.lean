/-
  Walks of mbx, the first part.
-/
import Derived.Test.YtegbkfloiiilfaaGreatDoorMgPlain
import Derived.Test.YtegbkfloiiilfaaGreatDoorMgAddrR
import Derived.Lib.MakeNoZero
import Derived.Deep.CutRange

/-
  Walks: strings.Split at a space; the document's; texts joined.
-/
namespace Go.Proofs.YtegbkfloiiilfaaGreatDoor.Mbx
open Go Go.RowKit
open Go.Proofs.YtegbkfloiiilfaaGreatDoor.Lex
open Go.Proofs.YtegbkfloiiilfaaGreatDoor.Addr (strT infoS ReadsP ReadsP.below read_cells append_str owns_readsP one_byte ba_cat)

abbrev spS : ByteArray := ⟨#[32]⟩
/-! Cut at spaces, and joined by spaces. -/
def pcs : List UInt8 → List UInt8 → List (List UInt8)
  | w, [] => [w]
  | w, x :: t => if x = 32 then w :: pcs [] t else pcs (w ++ [x]) t
def pieces (l : List UInt8) : List (List UInt8) := pcs [] l
def join : List (List UInt8) → List UInt8
  | [] => []
  | [p] => p
  | p :: q :: r => p ++ 32 :: join (q :: r)
theorem pcs_run : ∀ (a w t : List UInt8), (∀ x ∈ a, x ≠ 32) → pcs w (a ++ t) = pcs (w ++ a) t
  | [], w, t, _ => by simp
  | x :: a, w, t, h => by
    rw [List.cons_append, pcs, if_neg (h x (by simp)), pcs_run a _ t fun y hy => h y (by simp [hy])]
    simp
theorem pcs_hit (w t : List UInt8) : pcs w (32 :: t) = w :: pcs [] t := by rw [pcs, if_pos rfl]
theorem pcs_ne : ∀ (l w : List UInt8), pcs w l ≠ []
  | [], w => by simp [pcs]
  | x :: t, w => by
    rw [pcs]
    split
    · simp
    · exact pcs_ne t _
theorem join_cons {p : List UInt8} {q : List (List UInt8)} (h : q ≠ []) : join (p :: q) = p ++ 32 :: join q := by
  cases q with
  | nil => exact absurd rfl h
  | cons a r => rfl
theorem join_pcs : ∀ (l w : List UInt8), join (pcs w l) = w ++ l
  | [], w => by simp [pcs, join]
  | x :: t, w => by
    rw [pcs]
    split
    · rename_i h
      rw [join_cons (pcs_ne t []), join_pcs t [], h]
      rfl
    · rw [join_pcs t _]
      simp
theorem join_pieces (l : List UInt8) : join (pieces l) = l := join_pcs l []
theorem pcs_le : ∀ (l w p : List UInt8), p ∈ pcs w l → p.length ≤ w.length + l.length
  | [], w, p, h => by
    rw [pcs, List.mem_singleton] at h
    rw [h]
    simp
  | x :: t, w, p, h => by
    rw [pcs] at h
    split at h
    · rcases List.mem_cons.1 h with rfl | h
      · omega
      · have := pcs_le t [] p h
        simp only [List.length_nil, List.length_cons] at *
        omega
    · have := pcs_le t _ p h
      simp only [List.length_append, List.length_cons, List.length_nil] at *
      omega
theorem pieces_le {l p : List UInt8} (h : p ∈ pieces l) : p.length ≤ l.length := by
  have := pcs_le l [] p h
  simpa using this
theorem pcs_count : ∀ (l w : List UInt8), (pcs w l).length ≤ l.length + 1
  | [], w => by simp [pcs]
  | x :: t, w => by
    rw [pcs]
    split
    · have := pcs_count t []
      simp only [List.length_cons]
      omega
    · have := pcs_count t (w ++ [x])
      simp only [List.length_cons]
      omega

/-! The first space; how many there are. -/
theorem first_space : ∀ l : List UInt8, (Lib.indexByte l 32 = -1 ∧ ∀ x ∈ l, x ≠ 32) ∨ ∃ a b, l = a ++ 32 :: b ∧ (∀ x ∈ a, x ≠ 32) ∧ Lib.indexByte l 32 = (a.length : Int)
  | [] => .inl ⟨rfl, by simp⟩
  | x :: t => by
    by_cases hx : x = 32
    · subst hx
      exact .inr ⟨[], t, rfl, by simp, by simp [Lib.indexByte]⟩
    · rcases first_space t with ⟨h1, h2⟩ | ⟨a, b, h1, h2, h3⟩
      · refine .inl ⟨?_, ?_⟩
        · unfold Lib.indexByte
          simp [hx, h1]
        · intro y hy
          rcases List.mem_cons.1 hy with rfl | hy
          · exact hx
          · exact h2 y hy
      · refine .inr ⟨x :: a, b, by rw [h1]; rfl, ?_, ?_⟩
        · intro y hy
          rcases List.mem_cons.1 hy with rfl | hy
          · exact hx
          · exact h2 y hy
        · unfold Lib.indexByte
          simp [hx, h3]
theorem pieces_none {l : List UInt8} (h : ∀ x ∈ l, x ≠ 32) : pieces l = [l] := by
  have := pcs_run l [] [] h
  rw [List.append_nil] at this
  exact this
theorem pieces_some {a b : List UInt8} (h : ∀ x ∈ a, x ≠ 32) : pieces (a ++ 32 :: b) = a :: pieces b := by
  unfold pieces
  rw [pcs_run a [] _ h, pcs_hit]
  rfl
theorem count_none {l : List UInt8} (h : ∀ x ∈ l, x ≠ 32) : l.count 32 = 0 := List.count_eq_zero.2 fun hm => h 32 hm rfl
theorem count_some {a b : List UInt8} (h : ∀ x ∈ a, x ≠ 32) : (a ++ 32 :: b).count 32 = b.count 32 + 1 := by
  rw [List.count_append, count_none h]
  simp
theorem len_pieces : ∀ (n : Nat) (l : List UInt8), l.length ≤ n → (pieces l).length = l.count 32 + 1 := by
  intro n
  induction n with
  | zero =>
    intro l h
    obtain rfl := List.length_eq_zero_iff.1 (Nat.le_zero.1 h)
    rfl
  | succ n ih =>
    intro l h
    rcases first_space l with ⟨_, h2⟩ | ⟨a, b, rfl, h2, _⟩
    · rw [pieces_none h2, count_none h2]
      rfl
    · rw [pieces_some h2, count_some h2, List.length_cons, ih b (by simp at h; omega)]

set_option maxRecDepth 100000 in
set_option maxHeartbeats 1000000 in
theorem countS_any (s : ByteArray) (w : World) :
    Calls Tryz.prog 112 #[.string s, .string spS] w fun e w' => e = .returned (.int .i64 ((bl s).count 32)) ∧ w = w' := by
  go_enter Tryz.func112, Tryz.ntmps112
  go_wp2
  rw [run_callFunc_extern Tryz.func140 (by kernel_rfl) (by kernel_rfl) (by kernel_rfl) (e := Extern.BytealgCount.count) (by kernel_rfl), Lib.run_countString]
  simp only [Result.andThen]
  rw [Oper.upon_value]
  go_wp2
  go_ret
  exact ⟨rfl, rfl⟩
set_option maxRecDepth 100000 in
set_option maxHeartbeats 1000000 in
theorem indexLS_any (s : ByteArray) (w : World) :
    Calls Tryz.prog 123 #[.string s, .string spS] w fun e w' => e = .returned (.int .i64 (Lib.indexByte (bl s) 32)) ∧ w = w' := by
  have HX := Lib.hid (fun W => indexL_any s 32 W)
  cases hq : ([32] == s.toList)
  · go_enter Tryz.func123, Tryz.ntmps123
    go_wp2_with fail
    refine (HX.out _).mono ?_
    rintro e w1 ⟨rfl, rfl⟩
    go_wp2_with fail
    go_ret
    exact ⟨rfl, rfl⟩
  · have HE : Hid (Lib.indexByte (bl s) 32 = 0) := Lib.hid (by
      have h := beq_iff_eq.1 hq
      rw [Lib.toList_data] at h
      show Lib.indexByte s.data.toList 32 = 0
      rw [← h]
      rfl)
    go_enter Tryz.func123, Tryz.ntmps123
    go_wp2_with fail
    go_ret
    rw [HE.out]
    exact ⟨rfl, rfl⟩
set_option maxRecDepth 100000 in
set_option maxHeartbeats 1000000 in
theorem indexS_any (s : ByteArray) (w : World) :
    Calls Tryz.prog 113 #[.string s, .string spS] w fun e w' => e = .returned (.int .i64 (Lib.indexByte (bl s) 32)) ∧ w = w' := by
  have HX := Lib.hid (fun W => indexLS_any s W)
  go_enter Tryz.func113, Tryz.ntmps113
  go_wp2_with fail
  refine (HX.out _).mono ?_
  rintro e w1 ⟨rfl, rfl⟩
  go_wp2_with fail
  go_ret
  exact ⟨rfl, rfl⟩
/-- What has been cut off, and what is left. -/
structure Cut (l : List UInt8) (n : Nat) (done : List (List UInt8)) (rest : ByteArray) : Prop where
  eq : done ++ pieces (bl rest) = pieces l
  left : (bl rest).count 32 + done.length = n
  size : rest.size ≤ l.length
theorem Cut.start (s : ByteArray) : Cut (bl s) ((bl s).count 32) [] s := ⟨rfl, rfl, by rw [bl_len]; exact Nat.le_refl _⟩
theorem map_len (done : List (List UInt8)) : (done.map ba).length = done.length := List.length_map _
theorem Cut.next {l : List UInt8} {n : Nat} {done : List (List UInt8)} {rest : ByteArray} (h : Cut l n done rest) (hlt : done.length < n) :
    ∃ i : Nat, Lib.indexByte (bl rest) 32 = i ∧ i + 1 ≤ rest.size ∧ Cut l n (done ++ [bl (rest.extract 0 i)]) (rest.extract (i + 1) rest.size) := by
  rcases first_space (bl rest) with ⟨_, h2⟩ | ⟨a, b, h1, h2, h3⟩
  · have := h.left
    rw [count_none h2] at this
    omega
  · have hz : rest.size = a.length + 1 + b.length := by
      rw [← bl_len, h1]; simp; omega
    have e1 : bl (rest.extract 0 a.length) = a := by rw [bl_extract, h1]; simp
    have e2 : bl (rest.extract (a.length + 1) rest.size) = b := by
      rw [bl_from, h1, List.drop_append, List.drop_eq_nil_of_le (by omega)]
      simp
    refine ⟨a.length, h3, by omega, ?_, ?_, ?_⟩
    · rw [e1, e2, ← h.eq, h1, pieces_some h2]
      simp
    · rw [e2, List.length_append, ← h.left, h1, count_some h2]
      simp
      omega
    · have := h.size
      rw [ByteArray.size_extract]
      omega
theorem Cut.last {l : List UInt8} {n : Nat} {done : List (List UInt8)} {rest : ByteArray} (h : Cut l n done rest) (hlt : ¬ done.length < n) : done.length = n ∧ done ++ [bl rest] = pieces l := by
  rcases first_space (bl rest) with ⟨_, h2⟩ | ⟨a, b, h1, h2, h3⟩
  · have h4 := h.left
    rw [count_none h2] at h4
    have h5 := h.eq
    rw [pieces_none h2] at h5
    exact ⟨by omega, h5⟩
  · have h4 := h.left
    rw [h1, count_some h2] at h4
    omega
set_option maxRecDepth 100000 in
set_option maxHeartbeats 4000000 in
theorem genSplit_any (s : ByteArray) (w : World) (hs : s.size ≤ 1000000) :
    Calls Tryz.prog 89 #[.string s, .string spS, .int .i64 0, .int .i64 (-1)] w fun e w' => ∃ v, e = .returned v ∧ ReadsP w' v (pieces (bl s)) ∧ Below w.heap.size w w' := by
  have HC := Lib.hid (fun W => countS_any s W)
  have HX := Lib.hid (fun (r : ByteArray) W => indexS_any r W)
  have HI := Lib.hid (Cut.start s)
  obtain ⟨n, hn⟩ : ∃ n, n = (bl s).count 32 := ⟨_, rfl⟩
  have hns : n ≤ s.size := by rw [hn, ← bl_len]; exact List.count_le_length
  rw [← hn] at HC HI
  clear hn
  have hmin : min ((n : Int) + 1) ((s.size : Int) + 1) = ((n + 1 : Nat) : Int) := by omega
  have hmk : ∀ W : World, (Instr.makeSlice 57 (.int .i64 ((n : Int) + 1)) (.int .i64 ((n : Int) + 1))).run Tryz.prog W = .ok (.slice (some ⟨W.heap.size, 0, none⟩) (n + 1) (n + 1)) (W.alloc (.cells (madeCells #[.string ByteArray.empty] (n + 1)) strT)) :=
    run_make_row' (P := Tryz.prog) 57 strT (.string ByteArray.empty) 16 Tryz.underlying57 infoS rfl .i64 .i64 (n + 1) (by omega) (by omega)
  go_enter Tryz.func89, Tryz.ntmps89
  go_wp2_with fail
  refine (HC.out _).mono ?_
  rintro e w1 ⟨rfl, rfl⟩
  go_wp2_with fail
  clear hmk hmin
  go_loopw [0, 10] (fun s0 s10 wr => ∃ (done : List (List UInt8)) (rest : ByteArray), s0 = .string rest ∧ s10 = .int .i64 done.length ∧ done.length ≤ n ∧ Hid (Cut (bl s) n done rest) ∧ wr = w.alloc (.cells (Lib.cellsOf (done.map ba) (n + 1)) strT)) (fun _ i _ => n - (intOf i).toNat)
  case atStart => exact ⟨[], s, rfl, rfl, Nat.zero_le _, HI, by rw [List.map_nil, Lib.cellsOf_nil]⟩
  case round =>
    clear HI
    obtain ⟨done, rest, rfl, rfl, hd, hC, rfl⟩ := hrel
    have hrs : rest.size ≤ 1000000 := by have := hC.out.size; rw [bl_len] at this; omega
    have hnext : (Lib.cellsOf (done.map ba) (n + 1))[done.length]? = some (.string ByteArray.empty) := by
      have := Lib.cellsOf_next (done := done.map ba) (N := n + 1) (by rw [map_len]; omega)
      rwa [map_len] at this
    have hset := fun x : ByteArray => Lib.cellsOf_set (done := done.map ba) (N := n + 1) (by rw [map_len]; omega) x
    rw [map_len] at hset
    by_cases hlt : done.length < n
    · obtain ⟨i, hix, hi, hN⟩ := hC.out.next hlt
      have HXI := Lib.hid (fun W => HX.out rest W)
      rw [hix] at HXI
      have HN := Lib.hid hN
      have HS := Lib.hid hset
      have c1 : decide ((i : Int) < 0) = false := decide_eq_false (by omega)
      clear hix hN hset
      go_wp2_with fail
      refine (HXI.out _).mono ?_
      rintro e w1 ⟨rfl, rfl⟩
      go_wp2_with fail
      go_roundw
      case rel =>
        refine ⟨_, _, rfl, by simp, by simp; omega, HN, ?_⟩
        rw [List.map_append]
        have := HS.out (rest.extract 0 i)
        rw [List.map_cons, List.map_nil, ba_bl]
        rw [← this]
      case measure => simp [intOf]; omega
    · obtain ⟨h1, h2⟩ := hC.out.last hlt
      have HE := Lib.hid (And.intro h1 h2)
      have HS := Lib.hid hset
      clear h1 h2 hset
      go_wp2_with fail
      go_ret
      have hl : done.length = n := HE.out.1
      have hp : (pieces (bl s)).length = n + 1 := by rw [← HE.out.2, List.length_append, hl]; rfl
      have hm : (pieces (bl s)).map ba = done.map ba ++ [rest] := by rw [← HE.out.2, List.map_append, List.map_cons, List.map_nil, ba_bl]
      have hS := HS.out rest
      rw [← hm] at hS
      have hr := read_cells w (pieces (bl s))
      rw [hp, ← hS] at hr
      refine ⟨_, rfl, ?_, ?_⟩
      · simpa [hl] using hr
      · exact (Below.refl _ _).alloc (Nat.le_refl _) _
set_option maxRecDepth 100000 in
set_option maxHeartbeats 1000000 in
theorem split_any (s : ByteArray) (w : World) (hs : s.size ≤ 1000000) :
    Calls Tryz.prog 57 #[.string s, .string spS] w fun e w' => ∃ v, e = .returned v ∧ ReadsP w' v (pieces (bl s)) ∧ Below w.heap.size w w' := by
  have HG := Lib.hid (genSplit_any s w hs)
  go_enter Tryz.func57, Tryz.ntmps57
  go_wp2_with fail
  refine HG.out.mono ?_
  rintro e w1 ⟨v, rfl, hr, hb⟩
  have HR := Lib.hid (And.intro hr hb)
  clear hr hb
  go_wp2_with fail
  go_ret
  exact ⟨v, rfl, HR.out⟩
/-- The pieces so far, the one at hand, and what lay there before. -/
structure SpAt (s : ByteArray) (w wr : World) (k : Nat) (done : List (List UInt8)) (acc : List UInt8) (ov : Value) : Prop where
  eq : done ++ pcs acc ((bl s).drop k) = pieces (bl s)
  few : done.length ≤ k
  acc : acc.length ≤ k
  owns : wr.ownsRow w.heap.size strT 1 ov done.length ((done.map ba).map Value.string)
  below : Below w.heap.size w wr
set_option maxRecDepth 100000 in
set_option maxHeartbeats 2000000 in
theorem refSplit_any (s : ByteArray) (w : World) (hs : s.size ≤ 1000000) :
    Calls Tryz.prog 151 #[.string s, .int .u8 32] w fun e w' => ∃ v, e = .returned v ∧ ReadsP w' v (pieces (bl s)) ∧ Below w.heap.size w w' := by
  have HI : Hid (SpAt s w w 0 [] [] (.slice none 0 0)) := Lib.hid ⟨rfl, Nat.le_refl _, Nat.le_refl _, World.ownsRow_nil _ _ _ _, Below.refl _ _⟩
  go_enter Tryz.func151, Tryz.ntmps151
  go_wp2_with fail
  go_loopw [5, 6, 7] (fun ov a i wr => ∃ (k : Nat) (done : List (List UInt8)) (acc : List UInt8), k ≤ s.size ∧ i = .int .i64 k ∧ a = .string (ba acc) ∧ Hid (SpAt s w wr k done acc ov)) (fun _ _ i _ => s.size - (intOf i).toNat)
  case atStart => exact ⟨0, [], [], Nat.zero_le _, rfl, rfl, HI⟩
  case round =>
    clear HI
    obtain ⟨k, done, acc, hk, rfl, rfl, hI⟩ := hrel
    obtain ⟨oa, oc, rfl⟩ := owns_slice hI.out.owns
    obtain ⟨n, hn⟩ : ∃ n, n = done.length := ⟨_, rfl⟩
    have hnk : n ≤ k := by rw [hn]; exact hI.out.few
    have hacc : (ba acc).size ≤ k := by rw [ba_size]; exact hI.out.acc
    by_cases hlt : k < s.size
    · have h8 : s[k].toNat < 256 := s[k].toNat_lt
      have hd := drop_cons s k hlt
      by_cases h32 : s[k] = 32
      · have t1 : ((s[k].toNat : Int) == 32) = true := by rw [h32]; rfl
        obtain ⟨a', c', w2, hr, hh⟩ := append_str wr w.heap.size _ (done.map ba) (ba acc) (by rw [List.length_map]; exact hI.out.owns) (by rw [List.length_map]; omega) hI.out.below.size
        rw [List.length_map, ← hn] at hr hh
        have HR := Lib.hid hr
        have HN : Hid (SpAt s w w2 (k + 1) (done ++ [acc]) [] (.slice a' (n + 1) c')) := Lib.hid ⟨by
            have h := hI.out.eq
            rw [hd, h32, pcs_hit] at h
            rw [← h]
            simp, by simp; omega, by simp, by
            have h := hh.out.1
            rw [List.map_append, List.length_append, ← hn]
            exact h, hI.out.below.trans hh.out.2⟩
        rw [← hn]
        clear hr hh hd h32 hI hn
        generalize ba acc = x at *
        go_wp2_with (at_builtin; refine Lib.wpList_append_run _ rfl _ _ _ _ rfl _ _ rfl rfl _ _ HR.out ?_)
        go_roundw
        case rel => exact ⟨k + 1, _, [], by omega, by simp, rfl, HN⟩
        case measure => simp [intOf]; omega
      · have t1 : ((s[k].toNat : Int) == 32) = false := by
          rw [beq_eq_false_iff_ne]
          intro h
          exact h32 (UInt8.toNat.inj (by show s[k].toNat = 32; omega))
        have hx := one_byte s k hlt
        have hz1 : (ba [s[k]]).size = 1 := rfl
        have HN : Hid (SpAt s w wr (k + 1) done (acc ++ [s[k]]) (.slice oa done.length oc)) := Lib.hid ⟨by
            have h := hI.out.eq
            rw [hd, pcs, if_neg h32] at h
            exact h, by have := hI.out.few; omega, by have := hI.out.acc; simp; omega, hI.out.owns, hI.out.below⟩
        have HJ := Lib.hid (ba_cat acc [s[k]])
        rw [← hn] at HN ⊢
        clear hd h32 hI hn
        generalize ba acc = x at *
        generalize ba [s[k]] = y at *
        go_wp2_with fail
        go_roundw
        case rel => exact ⟨k + 1, done, _, by omega, by simp, by rw [HJ.out], HN⟩
        case measure => simp [intOf]; omega
    · obtain ⟨a', c', w2, hr, hh⟩ := append_str wr w.heap.size _ (done.map ba) (ba acc) (by rw [List.length_map]; exact hI.out.owns) (by rw [List.length_map]; omega) hI.out.below.size
      rw [List.length_map, ← hn] at hr hh
      have HR := Lib.hid hr
      have HE : Hid (ReadsP w2 (.slice a' (n + 1) c') (pieces (bl s)) ∧ Below w.heap.size w w2) := Lib.hid (by
        have h := hI.out.eq
        rw [drop_end s k hlt, pcs] at h
        refine ⟨?_, hI.out.below.trans hh.out.2⟩
        rw [← h]
        refine owns_readsP (n := n + 1) (B := w.heap.size) ?_ (by simp [hn]) (by simp)
        rw [List.map_append]
        exact hh.out.1)
      rw [← hn]
      clear hr hh hI hn
      generalize ba acc = x at *
      go_wp2_with (at_builtin; refine Lib.wpList_append_run _ rfl _ _ _ _ rfl _ _ rfl rfl _ _ HR.out ?_)
      go_ret
      exact ⟨_, rfl, HE.out⟩

end Go.Proofs.YtegbkfloiiilfaaGreatDoor.Mbx

/-
  Walks: (*strings.Builder).grow and Grow at a builder that has not been written; strings.Join.
-/
namespace Go.Proofs.YtegbkfloiiilfaaGreatDoor.Mbx
open Go Go.RowKit
open Go.Proofs.YtegbkfloiiilfaaGreatDoor.Lex

theorem sizeByte : (Tryz.prog.info? 5).map (·.size) = some 1 := by kernel_rfl
theorem neB5 : (103 : TypeId) ≠ 5 := by decide
set_option maxRecDepth 1000000 in
set_option maxHeartbeats 2000000 in
theorem bgrow_fresh (B b n : Nat) (w : World) (hB : B ≤ b) (hbk : w.heap[b]? = some (.cells #[.pointer (some ⟨b, 0, none⟩), .slice none 0 0] 103 (0, 0))) (hBw : B ≤ w.heap.size) (hn : n ≤ 281474976710656) :
    Calls Tryz.prog 144 #[.pointer (some ⟨b, 0, none⟩), .int .i64 n] w fun e w' => e = .returned (.tuple #[]) ∧ (Lib.BuilderAt 103 5 B b (.pointer (some ⟨b, 0, none⟩)) [] w' ∧ Below B w w') := by
  obtain ⟨cs, hrun, hle, hmax⟩ := Lib.run_makeNoZero (P := Tryz.prog) w.drew #[3] 38 5 Tryz.underlying38 n hn
  have hw : IntKind.i64.wrap (IntKind.i64.wrap 0 + (n : Int)) = n := by
    rw [IntKind.wrap_i64, IntKind.wrap_i64]
    omega
  have hcall : (callFunc 159 #[.int .i64 (IntKind.i64.wrap (IntKind.i64.wrap 0 + (n : Int)))]).run Tryz.prog w.drew = .ok (.value (.slice (some ⟨w.drew.heap.size, 0, none⟩) n cs.size)) (w.drew.drew.drew.alloc (.cells cs 5)) := by
    rw [hw, run_callFunc_extern Tryz.func159 (by kernel_rfl) (by kernel_rfl) (by kernel_rfl) (e := Extern.BytealgMakeNoZero.makeNoZero #[3] #[38]) (by kernel_rfl), hrun]
    rfl
  have hlt : b < w.heap.size := by
    rcases Nat.lt_or_ge b w.heap.size with h' | h'
    · exact h'
    · simp [Array.getElem?_eq_none h'] at hbk
  have c1 : w.drew.cell? ⟨b, 1, none⟩ = some (.slice none 0 0) := by
    have : w.drew.heap[b]? = _ := hbk
    rw [Lib.cell_of_heap this]; rfl
  have c2 : (w.alloc (.cells cs 5)).cell? ⟨b, 1, none⟩ = some (.slice none 0 0) := by
    have : (w.alloc (.cells cs 5)).heap[b]? = _ := (Lib.alloc_old w _ b hlt).trans hbk
    rw [Lib.cell_of_heap this]; rfl
  have f2 : (w.alloc (.cells cs 5)).frozen? ⟨b, 1, none⟩ = false := Lib.frozen_of_heap ((Lib.alloc_old w _ b hlt).trans hbk) 1
  have hcopy : ∀ W : World, (Builtin.copy_ #[38, 38] 3 #[.slice (some ⟨w.heap.size, 0, none⟩) 0 cs.size, .slice none 0 0]).run Tryz.prog W = .ok (goInt 0) W :=
    fun W => run_copy_none W 38 38 3 5 _ _ 0 cs.size 0 0 Tryz.underlying38 sizeByte rfl
  clear hw hlt
  have hfin := Lib.grown_fresh (T := 103) (e := 5) (cs := cs) hB hbk hBw (hmax (by unfold maxLen; omega)) neB5
  go_enter Tryz.func144, Tryz.ntmps144
  go_wp2_with fail
  go_region
  all_goals (go_wp2; go_end0; exact ⟨rfl, hfin⟩)
set_option maxRecDepth 1000000 in
set_option maxHeartbeats 2000000 in
theorem bGrow_fresh (B b n : Nat) (w : World) (hB : B ≤ b) (hbk : w.heap[b]? = some (.cells #[.pointer none, .slice none 0 0] 103 (0, 0))) (hBw : B ≤ w.heap.size) (hn : n ≤ 281474976710656) :
    Calls Tryz.prog 124 #[.pointer (some ⟨b, 0, none⟩), .int .i64 n] w fun e w' => e = .returned (.tuple #[]) ∧ (Lib.BuilderAt 103 5 B b (.pointer (some ⟨b, 0, none⟩)) [] w' ∧ Below B w w') := by
  have hbk1 : (w.setCell ⟨b, 0, none⟩ (.pointer (some ⟨b, 0, none⟩))).heap[b]? = some (.cells #[.pointer (some ⟨b, 0, none⟩), .slice none 0 0] 103 (0, 0)) := by
    simp [World.setCell, Array.getElem?_modify, hbk]
  have c1 : (w.setCell ⟨b, 0, none⟩ (.pointer (some ⟨b, 0, none⟩))).cell? ⟨b, 1, none⟩ = some (.slice none 0 0) := by rw [Lib.cell_of_heap hbk1]; rfl
  have hb1 : Below B w (w.setCell ⟨b, 0, none⟩ (.pointer (some ⟨b, 0, none⟩))) := (Below.refl B w).setCell (p := ⟨b, 0, none⟩) hB _
  have hU : Lib.BuilderAt 103 5 B b (.pointer (some ⟨b, 0, none⟩)) [] (w.setCell ⟨b, 0, none⟩ (.pointer (some ⟨b, 0, none⟩))) := ⟨hB, .slice none 0 0, hbk1, World.ownsRow_nil _ _ _ _, by simp [Value.ownBlock]⟩
  have c1' : (w.setCell ⟨b, 0, none⟩ (.pointer (some ⟨b, 0, none⟩))).drew.cell? ⟨b, 1, none⟩ = some (.slice none 0 0) := c1
  have hCC := Lib.hid (bcheck_fresh b w (by rw [Lib.cell_of_heap hbk]; rfl) (by simp [World.shape?, hbk]) (Lib.frozen_of_heap hbk 0))
  have hGG := Lib.hid (bgrow_fresh B b n (w.setCell ⟨b, 0, none⟩ (.pointer (some ⟨b, 0, none⟩))).drew hB hbk1 (by simpa [World.setCell, World.drew, -World.drew_eq] using hBw) hn)
  go_enter Tryz.func124, Tryz.ntmps124
  go_wp2_with fail
  refine hCC.out.mono ?_
  rintro e w' ⟨rfl, rfl⟩
  go_wp2_with fail
  go_region
  all_goals go_wp2_with (go_at_call 144; refine hGG.out.mono ?_; rintro e w' ⟨rfl, h1, h2⟩)
  all_goals first
    | (go_end0; exact ⟨rfl, h1, hb1.drew.trans h2⟩)
    | (go_end0; exact ⟨rfl, hU.drew, hb1.drew⟩)
end Go.Proofs.YtegbkfloiiilfaaGreatDoor.Mbx

namespace Go.Proofs.YtegbkfloiiilfaaGreatDoor.Mbx
open Go Go.RowKit
open Go.Proofs.YtegbkfloiiilfaaGreatDoor.Lex
open Go.Proofs.YtegbkfloiiilfaaGreatDoor.Addr (strT infoS ReadsP append_str)

/-- The value is a slice that reads as these strings. -/
def ReadsS (w : World) (v : Value) (ws : List ByteArray) : Prop :=
  (∃ a cap, v = .slice a 0 cap ∧ ws = []) ∨
  (∃ b cap, v = .slice (some ⟨b, 0, none⟩) ws.length cap ∧ ws.length ≤ cap ∧ cap ≤ 9223372036854775807 ∧ b < w.heap.size ∧ ∀ i x, ws[i]? = some x → w.cell? ⟨b, i, none⟩ = some (.string x))
section
variable {w w' : World} {v : Value} {q : List ByteArray}
theorem ReadsS.below (h : ReadsS w v q) (hb : Below w.heap.size w w') : ReadsS w' v q := by
  rcases h with h | ⟨b, cap, rfl, h1, h2, h3, h4⟩
  · exact .inl h
  · exact .inr ⟨b, cap, rfl, h1, h2, by have := hb.size; omega, fun i e hi => by rw [hb.cell (p := ⟨b, i, none⟩) h3]; exact h4 i e hi⟩
theorem owns_readsS {B : Nat} (h : w.ownsRow B strT 1 v q.length (q.map Value.string)) : ReadsS w v q := by
  have hc := fun g hg => h.cells (g := g) hg
  have hlt := h.lt
  rcases h.2 with ⟨rfl, hn⟩ | ⟨g, cap, cur, rfl, hb, hg, h1, h2, _, _⟩
  · exact .inl ⟨_, _, rfl, List.length_eq_zero_iff.1 hn⟩
  · refine .inr ⟨g, cap, rfl, h1, by unfold maxLen at h2; omega, (hlt g rfl).2, fun i e hi => ?_⟩
    have e1 := hc g rfl i (.string e) (by rw [List.getElem?_map, hi]; rfl)
    rw [addr_add, Nat.zero_add] at e1
    exact e1
end
theorem joinS_snoc (sep : List UInt8) : ∀ (us : List (List UInt8)) (x : List UInt8), us ≠ [] → joinS sep (us ++ [x]) = joinS sep us ++ (sep ++ x)
  | [], _, h => absurd rfl h
  | [p], x, _ => rfl
  | p :: q :: r, x, _ => by
    have ih := joinS_snoc sep (q :: r) x (by simp)
    show p ++ (sep ++ joinS sep ((q :: r) ++ [x])) = (p ++ (sep ++ joinS sep (q :: r))) ++ (sep ++ x)
    rw [ih]
    simp
def sumS (ws : List ByteArray) : Nat := (ws.map ByteArray.size).sum
theorem sumS_snoc (us : List ByteArray) (x : ByteArray) : sumS (us ++ [x]) = sumS us + x.size := by simp [sumS]
theorem sumS_take (ws : List ByteArray) (k : Nat) : sumS (ws.take k) ≤ sumS ws := by
  have h : sumS ws = sumS (ws.take k) + sumS (ws.drop k) := by
    conv => lhs; rw [← List.take_append_drop k ws]
    unfold sumS
    rw [List.map_append, List.sum_append]
  omega
theorem mem_sumS {ws : List ByteArray} {x : ByteArray} (h : x ∈ ws) : x.size ≤ sumS ws := by
  induction ws with
  | nil => cases h
  | cons u T ih =>
    unfold sumS at *
    simp only [List.map_cons, List.sum_cons] at *
    rcases List.mem_cons.1 h with rfl | h
    · omega
    · have := ih h; omega
theorem joinS_len (sep : List UInt8) : ∀ us : List ByteArray, (joinS sep (us.map bl)).length ≤ sumS us + sep.length * us.length
  | [] => by simp [joinS, sumS]
  | [p] => by
    simp only [List.map_cons, List.map_nil, joinS, sumS, List.sum_cons, List.sum_nil, bl_len, List.length_cons, List.length_nil]
    omega
  | p :: q :: r => by
    have ih := joinS_len sep (q :: r)
    have e : joinS sep ((p :: q :: r).map bl) = bl p ++ (sep ++ joinS sep ((q :: r).map bl)) := rfl
    rw [e, List.length_append, List.length_append, bl_len]
    have e2 : sumS (p :: q :: r) = p.size + sumS (q :: r) := by simp [sumS]
    rw [e2, List.length_cons, Nat.mul_succ]
    omega
set_option maxRecDepth 100000 in
set_option maxHeartbeats 4000000 in
theorem join_any (v : Value) (ws : List ByteArray) (sep : ByteArray) (w : World) (hv : ReadsS w v ws) (hn : ws.length ≤ 1000000) (hs0 : 0 < sep.size) (hs : sep.size ≤ 100) (hz : sumS ws ≤ 100000000) :
    Calls Tryz.prog 96 #[v, .string sep] w fun e w' => e = .returned (.string (ba (joinS (bl sep) (ws.map bl)))) ∧ Below w.heap.size w w' := by
  rcases ws with _ | ⟨x, ws⟩
  · obtain ⟨a, c, rfl⟩ : ∃ a c, v = .slice a 0 c := by
      rcases hv with ⟨a, c, rfl, _⟩ | ⟨b, c, rfl, _⟩
      · exact ⟨_, _, rfl⟩
      · exact ⟨_, _, rfl⟩
    go_enter Tryz.func96, Tryz.ntmps96
    go_wp2_with fail
    go_ret
    exact ⟨rfl, Below.refl _ _⟩
  obtain ⟨b, cap, rfl, hc1, hc2, hbw, hread⟩ : ∃ b cap, v = .slice (some ⟨b, 0, none⟩) (x :: ws).length cap ∧ (x :: ws).length ≤ cap ∧ cap ≤ 9223372036854775807 ∧ b < w.heap.size ∧ ∀ i y, (x :: ws)[i]? = some y → w.cell? ⟨b, i, none⟩ = some (.string y) := by
    rcases hv with ⟨a, c, rfl, h⟩ | h
    · cases h
    · exact h
  have h0 := hread 0 x rfl
  have hx : x.size ≤ 100000000 := Nat.le_trans (mem_sumS (by simp)) hz
  rcases ws with _ | ⟨y, ws⟩
  · have HX : Hid (x = ba (joinS (bl sep) (([x] : List ByteArray).map bl))) := Lib.hid (ba_bl x).symm
    clear hv hread
    simp only [List.length_cons, List.length_nil, Nat.zero_add] at hc1 ⊢
    go_enter Tryz.func96, Tryz.ntmps96
    go_wp2_with fail
    go_ret
    exact ⟨by rw [← HX.out]; rfl, Below.refl _ _⟩
  obtain ⟨W, hW⟩ : ∃ W, W = x :: y :: ws := ⟨_, rfl⟩
  have hWx : W[0]? = some x := by rw [hW]; rfl
  rw [← hW] at hc1 hn hz hread ⊢
  have hn2 : 2 ≤ W.length := by rw [hW]; simp
  clear hv hW
  obtain ⟨n, hnn⟩ : ∃ n, n = W.length := ⟨_, rfl⟩
  rw [← hnn] at hc1 hn hn2 ⊢
  obtain ⟨m, hm⟩ : ∃ m, n = m + 1 := ⟨n - 1, by omega⟩
  subst hm
  obtain ⟨M, hM⟩ : ∃ M, M = sep.size * m := ⟨_, rfl⟩
  have hM2 : M ≤ 100000000 := by
    rw [hM]
    exact Nat.le_trans (Nat.mul_le_mul hs (show m ≤ 1000000 by omega)) (by decide)
  have hmul : (sep.size : Int) * (m : Int) = (M : Int) := by rw [hM]; simp
  have hsub : ((m + 1 : Nat) : Int) - 1 = (m : Int) := by omega
  obtain ⟨Q, hQ⟩ : ∃ Q : Nat, Q = 9223372036854775807 / m := ⟨_, rfl⟩
  have hq : (9223372036854775807 : Int).tdiv (m : Int) = (Q : Int) := by
    rw [hQ]
    rfl
  have hQ2 : sep.size < Q := by
    rw [hQ]
    have : 9223372036854775807 / m ≥ 9223372036854775807 / 1000000 := Nat.div_le_div_left (by omega) (by omega)
    omega
  have hQ3 : Q ≤ 9223372036854775807 := by
    rw [hQ]
    exact Nat.div_le_self _ _
  have HR := Lib.hid hread
  have HL := Lib.hid hnn
  have HZ := Lib.hid hz
  have HB0 := Lib.hid (fun (W' : World) (h : Below w.heap.size w W') => fun i z (hi : W[i]? = some z) => by
    have := hread i z hi
    rw [← h.cell (p := ⟨b, i, none⟩) hbw] at this
    exact this)
  have HWX := Lib.hid hWx
  clear hM hQ hread hnn hz hWx
  go_enter Tryz.func96, Tryz.ntmps96
  go_wp2_with fail
  go_loopw [5, 41] (fun t i wr => ∃ k : Nat, k ≤ m + 1 ∧ i = .int .i64 k ∧ (∃ t0 : Nat, t = .int .i64 t0 ∧ t0 ≤ 200000000 ∧ Hid (t0 = M + sumS (W.take k))) ∧ w = wr) (fun _ i _ => m + 1 - (intOf i).toNat)
  case atStart => exact ⟨0, Nat.zero_le _, rfl, ⟨M, rfl, by omega, Lib.hid (by simp [sumS])⟩, rfl⟩
  case round =>
    obtain ⟨k, hk, rfl, ⟨t0, rfl, ht0, hT⟩, rfl⟩ := hrel
    by_cases hlt : k < m + 1
    · obtain ⟨z, hzk⟩ : ∃ z, W[k]? = some z := ⟨W[k]'(by have := HL.out; omega), List.getElem?_eq_getElem _⟩
      have hcell := HR.out k z hzk
      have hzz : z.size ≤ 100000000 := Nat.le_trans (mem_sumS (List.mem_of_getElem? hzk)) HZ.out
      have hstep : sumS (W.take (k + 1)) = sumS (W.take k) + z.size := by
        rw [List.take_add_one, hzk]
        exact sumS_snoc _ _
      have hb1 := sumS_take W (k + 1)
      have ht1 : t0 + z.size ≤ 200000000 := by have := hT.out; have := HZ.out; omega
      have HT := Lib.hid hstep
      clear hstep hb1 hzk
      go_wp2_with fail
      go_roundw
      case rel => exact ⟨k + 1, by omega, by simp, ⟨t0 + z.size, by simp, by omega, Lib.hid (by rw [HT.out, hT.out]; omega)⟩, trivial⟩
      case measure => simp [intOf]; omega
    · obtain ⟨hlt0, htz⟩ : k = m + 1 ∧ t0 ≤ 281474976710656 := ⟨by omega, by omega⟩
      subst hlt0
      have hold : (w.alloc (.cells #[.pointer none, .slice none 0 0] 103)).heap[w.heap.size]? = some (.cells #[.pointer none, .slice none 0 0] 103 (0, 0)) := heap_alloc_new w _
      have HG := Lib.hid (bGrow_fresh w.heap.size w.heap.size t0 (w.alloc (.cells #[.pointer none, .slice none 0 0] 103)) (Nat.le_refl _) hold (by simp) htz)
      have HA : Hid (Below w.heap.size w (w.alloc (.cells #[.pointer none, .slice none 0 0] 103))) := Lib.hid ((Below.refl _ _).alloc (Nat.le_refl _) _)
      clear hT hold
      go_wp2_with fail
      refine HG.out.mono ?_
      rintro e w1 ⟨rfl, h1, h2⟩
      have HB1 : Hid (BuiltAt w w1 []) := Lib.hid ⟨.inr h1, HA.out.trans h2⟩
      have hc0 := HB0.out w1 (HA.out.trans h2) 0 x HWX.out
      have HW1 := Lib.hid (wstr w w1 [] x HB1.out (by simp) (by omega))
      clear h1 h2
      go_wp2_with fail
      refine HW1.out.mono ?_
      rintro e w2 ⟨rfl, h3⟩
      have HB2 : Hid (BuiltAt w w2 (joinS (bl sep) ((W.take 1).map bl))) := Lib.hid (by
        have e1 : W.take 1 = [x] := by rw [List.take_add_one, HWX.out]; rfl
        rw [e1]
        exact h3)
      clear h3 hc0
      go_wp2_with fail
      go_loopw [65] (fun i wr => ∃ j : Nat, j ≤ m ∧ i = .int .i64 j ∧ Hid (BuiltAt w wr (joinS (bl sep) ((W.take (j + 1)).map bl)))) (fun i _ => m - (intOf i).toNat)
      case atStart => exact ⟨0, Nat.zero_le _, rfl, HB2⟩
      case round =>
        obtain ⟨j, hj, rfl, hB⟩ := hrel
        by_cases hlt2 : j < m
        · obtain ⟨z, hzk⟩ : ∃ z, W[j + 1]? = some z := ⟨W[j + 1]'(by have := HL.out; omega), List.getElem?_eq_getElem _⟩
          have hcell := HB0.out wr hB.out.2 (j + 1) z hzk
          have hzz : z.size ≤ 100000000 := Nat.le_trans (mem_sumS (List.mem_of_getElem? hzk)) HZ.out
          have hacc : (joinS (bl sep) ((W.take (j + 1)).map bl)).length ≤ 500000000 := by
            have h1 := joinS_len (bl sep) (W.take (j + 1))
            have h2 := sumS_take W (j + 1)
            have h3 := HZ.out
            have h4 : (bl sep).length * (W.take (j + 1)).length ≤ 100 * 1000001 := Nat.mul_le_mul (by rw [bl_len]; exact hs) (by rw [List.length_take]; omega)
            omega
          have HN : Hid (joinS (bl sep) ((W.take (j + 1 + 1)).map bl) = joinS (bl sep) ((W.take (j + 1)).map bl) ++ (bl sep ++ bl z)) := Lib.hid (by
            rw [List.take_add_one (i := j + 1), hzk]
            show joinS (bl sep) ((W.take (j + 1) ++ [z]).map bl) = _
            rw [List.map_append]
            refine joinS_snoc _ _ _ ?_
            intro h
            have := congrArg List.length h
            rw [List.length_map, List.length_take, List.length_nil] at this
            have := HL.out
            omega)
          have HWA := Lib.hid (wstr w wr _ sep hB.out (by omega) (by omega))
          have hz3 : (joinS (bl sep) ((W.take (j + 1)).map bl) ++ bl sep).length ≤ 600000000 := by
            rw [List.length_append, bl_len]; omega
          have HZ3 := Lib.hid hz3
          rw [show j + 1 = 1 + j by omega] at hcell
          clear hzk hacc hz3
          go_wp2_with fail
          refine HWA.out.mono ?_
          rintro e w3 ⟨rfl, h4⟩
          have HWB := Lib.hid (wstr w w3 _ z h4 (by have := HZ3.out; omega) (by omega))
          clear h4
          go_wp2_with fail
          refine HWB.out.mono ?_
          rintro e w4 ⟨rfl, h5⟩
          have HB5 := Lib.hid h5
          clear h5
          go_wp2_with fail
          go_roundw
          case rel => exact ⟨j + 1, by omega, by simp, Lib.hid (by rw [HN.out, ← List.append_assoc]; exact HB5.out)⟩
          case measure => simp [intOf]; omega
        · have HE : Hid (W.take (j + 1) = W) := Lib.hid (List.take_of_length_le (by have := HL.out; omega))
          have HW3 := Lib.hid (wend w wr _ hB.out)
          rw [HE.out] at HW3
          go_wp2_with fail
          refine HW3.out.mono ?_
          rintro e w5 ⟨rfl, hb5⟩
          have HB5 := Lib.hid hb5
          clear hb5
          go_wp2_with fail
          go_ret
          exact ⟨rfl, HB5.out⟩
end Go.Proofs.YtegbkfloiiilfaaGreatDoor.Mbx

/-
  Boxes in memory: three cells each; lists of them, read and appended to; told apart.
-/
namespace Go.Proofs.YtegbkfloiiilfaaGreatDoor.Mbx
open Go Go.RowKit
open Go.Proofs.YtegbkfloiiilfaaGreatDoor.Lex
open Go.Proofs.YtegbkfloiiilfaaGreatDoor.Addr (strT adT arT adB boxA cellsA twoA eqIn_ad eqIn_ar str_eq)

abbrev bxT : TypeId := 46
abbrev bxsT : TypeId := 111
abbrev rbT : TypeId := 51
abbrev rbsT : TypeId := 84
def bxC (b : Bx) : List Value := [.string b.n, .string b.l, .string b.d]
abbrev bxV (b : Bx) : Value := .agg #[.string b.n, .string b.l, .string b.d]
abbrev boxB (t : TypeId) (b : Bx) : Obj := .cells #[.string b.n, .string b.l, .string b.d] t
theorem bxC_length (p : Bx) : (bxC p).length = 3 := rfl
theorem flat3_length (q : List Bx) : (q.flatMap bxC).length = q.length * 3 := by
  induction q with
  | nil => rfl
  | cons e q ih => rw [List.flatMap_cons, List.length_append, ih, bxC_length, List.length_cons]; omega
theorem flat3_get : ∀ (q : List Bx) (i : Nat) (e : Bx), q[i]? = some e → ∀ j, j < 3 → (q.flatMap bxC)[i * 3 + j]? = (bxC e)[j]?
  | [], _, _, h, _, _ => by simp at h
  | x :: q, 0, e, h, j, hj => by
    obtain rfl : x = e := by simpa using h
    rw [List.flatMap_cons, List.getElem?_append_left (by rw [bxC_length]; omega)]
    simp
  | x :: q, i + 1, e, h, j, hj => by
    rw [List.flatMap_cons, List.getElem?_append_right (by rw [bxC_length]; omega), bxC_length, show (i + 1) * 3 + j - 3 = i * 3 + j by omega]
    exact flat3_get q i e (by simpa using h) j hj
theorem flat3_snoc (l : List Bx) (e : Bx) : (l ++ [e]).flatMap bxC = l.flatMap bxC ++ bxC e := by simp
theorem one_cell3 (c : Bx) : ∀ u ∈ bxC c, u.oneCell' = true := by
  intro u hu
  unfold bxC at hu
  simp only [List.mem_cons, List.not_mem_nil, or_false] at hu
  rcases hu with rfl | rfl | rfl <;> rfl
theorem three {w : World} {b o : Nat} {e : Bx} (h : w.rangeAt b o (bxC e)) : w.cell? ⟨b, o, none⟩ = some (.string e.n) ∧ w.cell? ⟨b, o + 1, none⟩ = some (.string e.l) ∧ w.cell? ⟨b, o + 2, none⟩ = some (.string e.d) := ⟨h 0 _ rfl, h 1 _ rfl, h 2 _ rfl⟩
theorem threeA {w : World} {b o : Nat} {e : Bx} (h : w.rangeAt b o (bxC e)) : w.rangeAt b (o + 1) (cellsA e.l e.d) := by
  intro j v hv
  have := h (j + 1) v (by
    match j, hv with
    | 0, hv => exact hv
    | 1, hv => exact hv
    | j + 2, hv => simp [cellsA] at hv)
  rwa [show o + (j + 1) = o + 1 + j by omega] at this

/-- The value is a slice that reads as these boxes. -/
def ReadsB (w : World) (v : Value) (q : List Bx) : Prop :=
  (∃ a cap, v = .slice a 0 cap ∧ q = []) ∨
  (∃ b off cap, v = .slice (some ⟨b, off, none⟩) q.length cap ∧ q.length ≤ cap ∧ cap ≤ 9223372036854775807 ∧ b < w.heap.size ∧ ∀ i e, q[i]? = some e → w.rangeAt b (off + i * 3) (bxC e))
section
variable {w w' : World} {v : Value} {q : List Bx}
theorem ReadsB.below (h : ReadsB w v q) (hb : Below w.heap.size w w') : ReadsB w' v q := by
  rcases h with h | ⟨b, off, cap, rfl, h1, h2, h3, h4⟩
  · exact .inl h
  · exact .inr ⟨b, off, cap, rfl, h1, h2, by have := hb.size; omega, fun i e hi => range_below (h4 i e hi) h3 hb⟩
theorem ReadsB.shape (h : ReadsB w v q) : ∃ a cap, v = .slice a q.length cap := by
  rcases h with ⟨a, cap, rfl, rfl⟩ | ⟨b, off, cap, rfl, _⟩
  · exact ⟨a, cap, rfl⟩
  · exact ⟨_, cap, rfl⟩
theorem nil_readsB (w : World) : ReadsB w (.slice none 0 0) [] := .inl ⟨_, _, rfl, rfl⟩
theorem ReadsB.at_ {a : Option Addr} {n cap : Nat} (h : ReadsB w (.slice a n cap) q) (i : Nat) (e : Bx) (hi : q[i]? = some e) : ∃ b off, a = some ⟨b, off, none⟩ ∧ b < w.heap.size ∧ w.rangeAt b (off + i * 3) (bxC e) := by
  rcases h with ⟨a', cap', he, rfl⟩ | ⟨b, off, cap', he, h1, h2, h3, h4⟩
  · simp at hi
  · obtain ⟨rfl, -, -⟩ := Value.slice.inj he
    exact ⟨b, off, rfl, h3, h4 i e hi⟩
end
theorem owns_readsB {w : World} {B : Nat} {t : TypeId} {v : Value} {q : List Bx} (h : w.ownsRow B t 3 v q.length (q.flatMap bxC)) : ReadsB w v q := by
  have hc := fun g hg => h.cells (g := g) hg
  have hlt := h.lt
  rcases h.2 with ⟨rfl, hn⟩ | ⟨g, cap, cur, rfl, hb, hg, h1, h2, _, _⟩
  · exact .inl ⟨_, _, rfl, List.length_eq_zero_iff.1 hn⟩
  · refine .inr ⟨g, 0, cap, rfl, h1, by unfold maxLen at h2; omega, (hlt g rfl).2, fun i e hi j v hv => ?_⟩
    have hj : j < 3 := by
      have := (List.getElem?_eq_some_iff.1 hv).1
      rw [bxC_length] at this
      exact this
    have e1 := hc g rfl (i * 3 + j) v (by rw [flat3_get q i e hi j hj]; exact hv)
    rw [addr_add] at e1
    rw [← e1]
    congr 2
    omega
theorem sizeB : (Tryz.prog.info? bxT).map (·.size) = some 3 := by kernel_rfl
theorem sizeRB : (Tryz.prog.info? rbT).map (·.size) = some 3 := by kernel_rfl
theorem infoB : (Tryz.prog.info? bxT).map (fun i => (i.zero, i.size, i.bytes)) = some (some (.agg #[.string ⟨#[]⟩, .string ⟨#[]⟩, .string ⟨#[]⟩]), 3, 48) := by kernel_rfl
theorem infoRB : (Tryz.prog.info? rbT).map (fun i => (i.zero, i.size, i.bytes)) = some (some (.agg #[.string ⟨#[]⟩, .string ⟨#[]⟩, .string ⟨#[]⟩]), 3, 48) := by kernel_rfl
theorem new_boxB (w : World) (t : TypeId) (c : Bx) : (w.alloc (boxB t c)).rangeAt w.heap.size 0 (bxC c) := by
  intro j u h
  have hb := heap_alloc_new w (boxB t c)
  simp only [World.cell?, hb, Nat.zero_add]
  unfold bxC at h
  match j, h with
  | 0, h => simpa using h
  | 1, h => simpa using h
  | 2, h => simpa using h
  | j + 3, h => simp at h
/-- One box appended, as the program does it. -/
theorem append_oneB (mo : Nat) {us : List Bx} (hn : us.length = mo) (W : World) (B : Nat) (ou : Value) (y : Bx) (ho : W.ownsRow B bxT 3 ou mo (us.flatMap bxC)) (hl : mo ≤ 100000000) (hB : B ≤ W.heap.size) :
    ∃ a c w', (Builtin.append_ #[bxsT, bxsT] bxsT #[ou, .slice (some ⟨W.heap.size, 0, none⟩) 1 1]).run Tryz.prog (W.alloc (boxB bxT y)) = .ok (.slice a (mo + 1) c) w' ∧
      Hid (w'.ownsRow B bxT 3 (.slice a (mo + 1) c) (mo + 1) ((us ++ [y]).flatMap bxC) ∧ w'.heap.size ≥ W.heap.size ∧ (W.alloc (boxB bxT y)).grownBy w' ou.ownBlock ∧ (∀ g, ou.ownBlock = some g → B ≤ g)) := by
  subst hn
  obtain ⟨i0, hi, hz0, hz1, hz2⟩ := info_parts infoB
  obtain ⟨v', w', hr, h2, h3, h4⟩ := run_append_own (P := Tryz.prog) (W.alloc (boxB bxT y)) B bxsT bxsT bxT i0 _ 3 48 Tryz.underlying111 hi hz0 hz1 hz2 rfl (by decide) ou us.length _ (ho.alloc _) ⟨W.heap.size, 0, none⟩ 1 1 (bxC y) rfl (fun j u hu => by rw [addr_add]; exact new_boxB W bxT y j u hu) (one_cell3 y) (by unfold maxLen; omega) (by omega) (by simp; omega)
  obtain ⟨a, c, rfl⟩ := owns_slice h2
  refine ⟨a, c, w', hr, Lib.hid ⟨?_, ?_, h3, fun k hk => (ho.lt k hk).1⟩⟩
  · rw [flat3_snoc]; exact h2
  · have := h3.size
    simp at this
    omega
/-- One box appended, as the document does it. -/
theorem append_oneRB (mo : Nat) {us : List Bx} (hn : us.length = mo) (W : World) (B : Nat) (ou : Value) (y : Bx) (ho : W.ownsRow B rbT 3 ou mo (us.flatMap bxC)) (hl : mo ≤ 100000000) (hB : B ≤ W.heap.size) :
    ∃ a c w', (Builtin.append_ #[rbsT, rbsT] rbsT #[ou, .slice (some ⟨W.heap.size, 0, none⟩) 1 1]).run Tryz.prog (W.alloc (boxB rbT y)) = .ok (.slice a (mo + 1) c) w' ∧
      Hid (w'.ownsRow B rbT 3 (.slice a (mo + 1) c) (mo + 1) ((us ++ [y]).flatMap bxC) ∧ w'.heap.size ≥ W.heap.size ∧ (W.alloc (boxB rbT y)).grownBy w' ou.ownBlock ∧ (∀ g, ou.ownBlock = some g → B ≤ g)) := by
  subst hn
  obtain ⟨i0, hi, hz0, hz1, hz2⟩ := info_parts infoRB
  obtain ⟨v', w', hr, h2, h3, h4⟩ := run_append_own (P := Tryz.prog) (W.alloc (boxB rbT y)) B rbsT rbsT rbT i0 _ 3 48 Tryz.underlying84 hi hz0 hz1 hz2 rfl (by decide) ou us.length _ (ho.alloc _) ⟨W.heap.size, 0, none⟩ 1 1 (bxC y) rfl (fun j u hu => by rw [addr_add]; exact new_boxB W rbT y j u hu) (one_cell3 y) (by unfold maxLen; omega) (by omega) (by simp; omega)
  obtain ⟨a, c, rfl⟩ := owns_slice h2
  refine ⟨a, c, w', hr, Lib.hid ⟨?_, ?_, h3, fun k hk => (ho.lt k hk).1⟩⟩
  · rw [flat3_snoc]; exact h2
  · have := h3.size
    simp at this
    omega

/-! Told apart. -/
def beqB (a b : Bx) : Bool := decide (a.n = b.n) && (decide (a.l = b.l) && decide (a.d = b.d))
theorem beqB_iff {a b : Bx} : beqB a b = true ↔ a = b := by
  unfold beqB
  simp only [Bool.and_eq_true, decide_eq_true_eq]
  constructor
  · rintro ⟨h1, h2, h3⟩
    cases a; cases b
    simp_all
  · rintro rfl
    exact ⟨rfl, rfl, rfl⟩
theorem beqB_self (a : Bx) : beqB a a = true := beqB_iff.2 rfl
theorem eqIn_bx (w : World) (n : Nat) (a b : Bx) : (Op.equalIn (n + 3) bxT (bxV a) (bxV b)).run Tryz.prog w = .ok (beqB a b) w := by
  have e : (Op.equalIn (n + 2 + 1) bxT (bxV a) (bxV b)).run Tryz.prog w = _ := run_equalIn_struct w (n + 2) bxT _ _ (by unfold Program.fieldsOf; rw [Tryz.underlying46]) (by kernel_rfl)
  rw [e]
  unfold Program.fieldsOf
  rw [Tryz.underlying46]
  unfold beqB
  rw [← str_eq a.n b.n, ← str_eq a.l b.l, ← str_eq a.d b.d]
  simp [Op.eqFields, go_sem]
  by_cases h1 : a.n.toList = b.n.toList <;> by_cases h2 : a.l.toList = b.l.toList <;> by_cases h3 : a.d.toList = b.d.toList <;> simp [h1, h2, h3]
theorem eql_bx (w : World) (a b : Bx) : (binOp .eql bxT (bxV a) (bxV b)).run Tryz.prog w = .ok (.bool (beqB a b)) w := by
  simp only [binOp]
  simp [Op.equal, Op.maxDepth, eqIn_bx w 9997]
theorem neq_bx (w : World) (a b : Bx) : (binOp .neq bxT (bxV a) (bxV b)).run Tryz.prog w = .ok (.bool (!beqB a b)) w := by
  simp only [binOp]
  simp [Op.equal, Op.maxDepth, eqIn_bx w 9997]
theorem guard_bx : Tryz.prog.eqGuardType Tryz.prog.depth bxT = false := by kernel_rfl

/-! One byte within , ; : < >. -/
abbrev endS : ByteArray := ⟨#[44, 59, 58, 60, 62]⟩
def endN (n : Nat) : Bool := n == 44 || (n == 59 || (n == 58 || (n == 60 || n == 62)))
theorem end_index (n : Nat) (hn : n < 256) : decide (0 ≤ Lib.indexByte endS.data.toList n.toUInt8) = endN n := by
  have := all256 (p := fun n => decide (0 ≤ Lib.indexByte endS.data.toList n.toUInt8) == endN n) (by decide +kernel) n hn
  exact beq_iff_eq.1 this
set_option maxRecDepth 100000 in
set_option maxHeartbeats 1000000 in
theorem indexLE_any (c : UInt8) (w : World) :
    Calls Tryz.prog 123 #[.string endS, .string ⟨#[c]⟩] w fun e w' => e = .returned (.int .i64 (Lib.indexByte endS.data.toList c)) ∧ w = w' := by
  have HX := Lib.hid (fun W => indexL_any endS c.toNat W)
  have hq : ((⟨#[c]⟩ : ByteArray).toList == endS.toList) = false := by
    rw [beq_eq_false_iff_ne]
    intro h
    rw [Lib.toList_data, Lib.toList_data] at h
    have := congrArg List.length h
    simp at this
  go_enter Tryz.func123, Tryz.ntmps123
  go_wp2_with fail
  refine (HX.out _).mono ?_
  rintro e w1 ⟨rfl, rfl⟩
  go_wp2_with fail
  go_ret
  exact ⟨rfl, rfl⟩
set_option maxRecDepth 100000 in
set_option maxHeartbeats 1000000 in
theorem indexE_any (c : UInt8) (w : World) :
    Calls Tryz.prog 113 #[.string endS, .string ⟨#[c]⟩] w fun e w' => e = .returned (.int .i64 (Lib.indexByte endS.data.toList c)) ∧ w = w' := by
  have HX := Lib.hid (fun W => indexLE_any c W)
  go_enter Tryz.func113, Tryz.ntmps113
  go_wp2_with fail
  refine (HX.out _).mono ?_
  rintro e w1 ⟨rfl, rfl⟩
  go_wp2_with fail
  go_ret
  exact ⟨rfl, rfl⟩
set_option maxRecDepth 100000 in
set_option maxHeartbeats 1000000 in
theorem containsE_any (c : UInt8) (w : World) :
    Calls Tryz.prog 167 #[.string endS, .string ⟨#[c]⟩] w fun e w' => e = .returned (.bool (endN c.toNat)) ∧ w = w' := by
  have HX := Lib.hid (fun W => indexE_any c W)
  have he := end_index c.toNat c.toNat_lt
  rw [show c.toNat.toUInt8 = c from UInt8.ofNat_toNat] at he
  have HE := Lib.hid he
  clear he
  generalize Lib.indexByte endS.data.toList c = v at *
  go_enter Tryz.func167, Tryz.ntmps167
  go_wp2_with fail
  refine (HX.out _).mono ?_
  rintro e w1 ⟨rfl, rfl⟩
  go_wp2_with fail
  go_ret
  exact ⟨ret_bool HE.out, rfl⟩
/-- An append within a region that draws its order, its run laid. -/
theorem step_append_run {P : Program} {ops : Array Oper} {o : Oper} {a : Act} {w w' : World} {K : Act → World → Prop} {Q : Exit → Act → World → Prop} {E : Prop}
    (hg : o.guard = none) (s x : Operand) (t : TypeId) (hop : o.op = Op.call { callee := Callee.builtin Builtin.append, args := #[s, x], argTypes := #[t, t] })
    (u v r : Value) (hs : a.eval s = u) (hx : a.eval x = v) (hrun : (Builtin.append_ #[t, t] o.type #[u, v]).run P w = .ok r w') (hK : K (a.put o.dst r) w') :
    if Region.wanted o (yielded ops a.tmps) = true then Oper.wp P o a w K Q else E := by
  have hw : Region.wanted o (yielded ops a.tmps) = true := by simp [Region.wanted, hg]
  rw [if_pos hw]
  unfold Oper.wp
  simp [execOp, hop, resolve, invoke, builtin, hs, hx, hrun, Result.andThen]
  exact hK
end Go.Proofs.YtegbkfloiiilfaaGreatDoor.Mbx

/-
  Walks: countWords, begins, isEnder, join; a list of tokens cut at a place.
-/
namespace Go.Proofs.YtegbkfloiiilfaaGreatDoor.Mbx
open Go Go.RowKit
open Go.Proofs.YtegbkfloiiilfaaGreatDoor.Lex
open Go.Proofs.YtegbkfloiiilfaaGreatDoor.Addr (strT append_str neq_tok eql_tok beq_text cost_drop front back back_all texts_le)

/-! A list cut at a place. -/
theorem from_any {a : Option Addr} {n cap : Nat} {T : List Tk} (w : World) (h : ReadsT w (.slice a n cap) T) (k : Nat) (hk : k ≤ n) :
    ∃ a' m c', m = n - k ∧ (∀ W : World, (Instr.sliceAt tksT (.slice a n cap) (some (.int .i64 k)) none none).run Tryz.prog W = .ok (.slice a' m c') W) ∧ ∀ W, ReadsT W (.slice a n cap) T → ReadsT W (.slice a' m c') (T.drop k) := by
  obtain ⟨i0, hi, hz0, hz1, hz2⟩ := info_parts infoT
  have hrun : ∀ W : World, (Instr.sliceAt tksT (.slice a n cap) (some (.int .i64 k)) none none).run Tryz.prog W = .ok (.slice (if cap = k then a else a.map (·.add (k * 2))) (n - k) (cap - k)) W := by
    intro W
    have e1 : (sizeOf tkT).run Tryz.prog W = .ok 2 W := by simp [sizeOf, typeInfo, hi, hz1]
    have e2 : Tryz.prog.elem tksT = tkT := by kernel_rfl
    rw [run_sliceAt_slice (P := Tryz.prog) W tksT _ _ _ _ (by rw [e2]; exact Tryz.underlying139), run_slice_l (P := Tryz.prog) W tksT a n cap (by rw [e2]; exact Tryz.underlying139) .i64 k (by omega) (by omega), e2, e1]
    simp [Result.andThen, sliced]
  refine ⟨_, _, _, rfl, hrun, ?_⟩
  intro W hW
  rcases hW with ⟨a0, c0, he, rfl⟩ | ⟨b, off, c0, he, h1, h2, h3, h4⟩
  · obtain ⟨rfl, rfl, rfl⟩ := Value.slice.inj he
    exact .inl ⟨_, _, by rw [Nat.zero_sub], by simp⟩
  · obtain ⟨rfl, rfl, rfl⟩ := Value.slice.inj he
    have hW : ReadsT W (.slice (some ⟨b, off, none⟩) T.length cap) T := .inr ⟨b, off, cap, rfl, h1, h2, h3, h4⟩
    by_cases hc : cap = k
    · have hl : T.drop k = [] := List.drop_eq_nil_of_le (by omega)
      rw [hl]
      exact .inl ⟨_, _, by rw [show T.length - k = 0 by omega], rfl⟩
    · rw [if_neg hc]
      have := back hW k hk
      simpa [addr_add] using this
theorem to_any {a : Option Addr} {n cap : Nat} {T : List Tk} (w : World) (h : ReadsT w (.slice a n cap) T) (k : Nat) (hk : k ≤ n) :
    ∃ a' m c', m = k ∧ (∀ W : World, (Instr.sliceAt tksT (.slice a n cap) none (some (.int .i64 k)) none).run Tryz.prog W = .ok (.slice a' m c') W) ∧ ∀ W, ReadsT W (.slice a n cap) T → ReadsT W (.slice a' m c') (T.take k) := by
  obtain ⟨i0, hi, hz0, hz1, hz2⟩ := info_parts infoT
  have hkc : k ≤ cap := by
    rcases h with ⟨a0, c0, he, rfl⟩ | ⟨b, off, c0, he, h1, h2, h3, h4⟩
    · obtain ⟨rfl, rfl, rfl⟩ := Value.slice.inj he
      omega
    · obtain ⟨rfl, rfl, rfl⟩ := Value.slice.inj he
      omega
  have hrun : ∀ W : World, (Instr.sliceAt tksT (.slice a n cap) none (some (.int .i64 k)) none).run Tryz.prog W = .ok (.slice (if cap = 0 then a else a.map (·.add (0 * 2))) k cap) W := by
    intro W
    have e1 : (sizeOf tkT).run Tryz.prog W = .ok 2 W := by simp [sizeOf, typeInfo, hi, hz1]
    have e2 : Tryz.prog.elem tksT = tkT := by kernel_rfl
    rw [run_sliceAt_slice (P := Tryz.prog) W tksT _ _ _ _ (by rw [e2]; exact Tryz.underlying139), run_slice_h (P := Tryz.prog) W tksT a n cap (by rw [e2]; exact Tryz.underlying139) .i64 k (by omega) (by omega), e2, e1]
    simp [Result.andThen, sliced]
  refine ⟨_, _, _, rfl, hrun, ?_⟩
  intro W hW
  rcases hW with ⟨a0, c0, he, rfl⟩ | ⟨b, off, c0, he, h1, h2, h3, h4⟩
  · obtain ⟨rfl, rfl, rfl⟩ := Value.slice.inj he
    obtain rfl : k = 0 := by omega
    exact .inl ⟨_, _, rfl, by simp⟩
  · obtain ⟨rfl, rfl, rfl⟩ := Value.slice.inj he
    have hW : ReadsT W (.slice (some ⟨b, off, none⟩) T.length cap) T := .inr ⟨b, off, cap, rfl, h1, h2, h3, h4⟩
    have h5 := front hW k hk
    by_cases hc : cap = 0
    · rw [if_pos hc]; exact h5
    · rw [if_neg hc]
      simpa [addr_add] using h5

/-! How many words come first; does a sign come next. -/
theorem word_here {T : List Tk} {k : Nat} {t : Tk} (hk : T[k]? = some t) (hall : ∀ x ∈ T.take k, decide (x.kind = 3) = false) (h : decide (t.kind = 3) = true) : wordsN T = k := by
  have he := (List.getElem?_eq_some_iff.1 hk).2
  have e : T = T.take k ++ t :: T.drop (k + 1) := by
    rw [← he]
    simp
  have hlt := (List.getElem?_eq_some_iff.1 hk).1
  have h2 : (T.take k).findIdx (fun t => decide (t.kind = 3)) = (T.take k).length := List.findIdx_eq_length.2 hall
  unfold wordsN
  rw [e, List.findIdx_append, h2, if_neg (by omega), List.findIdx_cons, h]
  simp
  omega
theorem seg_here {T : List Tk} {k : Nat} {t : Tk} (hk : T[k]? = some t) (hall : ∀ x ∈ T.take k, endT x = false) (h : endT t = true) : segN T = k := by
  have he := (List.getElem?_eq_some_iff.1 hk).2
  have e : T = T.take k ++ t :: T.drop (k + 1) := by
    rw [← he]
    simp
  have hlt := (List.getElem?_eq_some_iff.1 hk).1
  have h2 : (T.take k).findIdx endT = (T.take k).length := List.findIdx_eq_length.2 hall
  unfold segN
  rw [e, List.findIdx_append, h2, if_neg (by omega), List.findIdx_cons, h]
  simp
  omega
theorem all_take {p : Tk → Bool} {T : List Tk} {k : Nat} {t : Tk} (hk : T[k]? = some t) (hall : ∀ x ∈ T.take k, p x = false) (h : p t = false) : ∀ x ∈ T.take (k + 1), p x = false := by
  intro x hx
  rw [List.take_add_one, hk] at hx
  rcases List.mem_append.1 hx with hx | hx
  · exact hall x hx
  · have : x = t := by simpa using hx
    rw [this]; exact h
set_option maxRecDepth 100000 in
set_option maxHeartbeats 2000000 in
theorem countWords_any (v : Value) (T : List Tk) (w : World) (hv : ReadsT w v T) (hl : T.length ≤ 1000000) :
    Calls Tryz.prog 147 #[v] w fun e w' => e = .returned (.int .i64 (wordsN T)) ∧ w = w' := by
  obtain ⟨va, vc, rfl⟩ := hv.shape
  obtain ⟨n, hn⟩ : ∃ n, n = T.length := ⟨_, rfl⟩
  rw [← hn] at hv hl ⊢
  have HV := Lib.hid (fun k a ha => hv.at_ k a ha)
  have HNN := Lib.hid hn
  clear hv hn
  go_enter Tryz.func147, Tryz.ntmps147
  go_wp2_with fail
  go_loopw [3] (fun i wr => ∃ k : Nat, k ≤ n ∧ i = .int .i64 k ∧ Hid (∀ x ∈ T.take k, decide (x.kind = 3) = false) ∧ w = wr) (fun i _ => n - (intOf i).toNat)
  case atStart => exact ⟨0, Nat.zero_le _, rfl, Lib.hid (by simp), rfl⟩
  case round =>
    obtain ⟨k, hk, rfl, hall, rfl⟩ := hrel
    by_cases hlt : k < n
    · obtain ⟨t, ht⟩ : ∃ a, T[k]? = some a := ⟨T[k]'(by have := HNN.out; omega), List.getElem?_eq_getElem _⟩
      obtain ⟨b1, o1, rfl, hb1, r1⟩ := HV.out k t ht
      obtain ⟨c0, c1⟩ := two r1
      cases hb : decide (t.kind = 3)
      · have hq : (t.kind != 3) = true := by rw [bne_iff_ne]; simpa using hb
        have HN := Lib.hid (all_take ht hall.out hb)
        clear ht r1 hb
        go_wp2_with fail
        go_roundw
        case rel => exact ⟨k + 1, by omega, by simp, HN, trivial⟩
        case measure => simp [intOf]; omega
      · have hq : (t.kind != 3) = false := by
          have : t.kind = 3 := by simpa using hb
          rw [this]; rfl
        have HE := Lib.hid (word_here ht hall.out hb)
        clear ht r1 hb
        go_wp2_with fail
        go_ret
        rw [HE.out]
        exact ⟨rfl, rfl⟩
    · have HE : Hid (wordsN T = k) := Lib.hid (by
        have h := hall.out
        have hkn := HNN.out
        rw [List.take_of_length_le (by omega)] at h
        have h2 : T.findIdx (fun t => decide (t.kind = 3)) = T.length := List.findIdx_eq_length.2 h
        unfold wordsN
        rw [h2]
        omega)
      go_wp2_with fail
      go_ret
      rw [HE.out]
      exact ⟨rfl, rfl⟩
theorem sgn_eq (t : Tk) (c : UInt8) : (decide (t.kind = ((⟨3, ⟨#[c]⟩⟩ : Tk)).kind) && decide (t.text = (⟨3, ⟨#[c]⟩⟩ : Tk).text)) = (decide (t.kind = 3) && (bl t.text == [c])) := by
  congr 1
  rw [Bool.eq_iff_iff, decide_eq_true_eq, beq_iff_eq]
  constructor
  · intro h; rw [h]
  · intro h
    have := congrArg ba h
    rw [ba_bl] at this
    exact this
set_option maxRecDepth 100000 in
set_option maxHeartbeats 2000000 in
theorem begins_any (v : Value) (T : List Tk) (c : UInt8) (w : World) (hv : ReadsT w v T) (hl : T.length ≤ 1000000) :
    Calls Tryz.prog 148 #[v, .string ⟨#[c]⟩] w fun e w' => e = .returned (.bool (begB c T)) ∧ w = w' := by
  obtain ⟨va, vc, rfl⟩ := hv.shape
  cases T with
  | nil =>
    clear hv
    simp only [List.length_nil]
    go_enter Tryz.func148, Tryz.ntmps148
    go_wp2_with fail
    go_ret
    exact ⟨rfl, rfl⟩
  | cons t T =>
    obtain ⟨b1, o1, rfl, hb1, r1⟩ := hv.at_ 0 t rfl
    rw [Nat.zero_mul, Nat.add_zero] at r1
    obtain ⟨c0, c1⟩ := two r1
    have hq : ∀ W, (binOp .eql tkT (tkV t) (tkV ⟨3, ⟨#[c]⟩⟩)).run Tryz.prog W = .ok (.bool (begB c (t :: T))) W := fun W => by rw [eql_tok, sgn_eq]; rfl
    generalize begB c (t :: T) = q at *
    obtain ⟨n, hn⟩ : ∃ n, n = (t :: T).length := ⟨_, rfl⟩
    have hn0 : 0 < n := by rw [hn]; simp
    rw [← hn] at hl ⊢
    clear hv r1 hn
    go_enter Tryz.func148, Tryz.ntmps148
    go_wp2_with fail
    go_ret
    exact ⟨rfl, rfl⟩

/-! Is a token a sign? -/
theorem end_ok {t : Tk} (h : Ok t) (hk : t.kind = 3) : ∃ c, t.text = ⟨#[c]⟩ ∧ endT t = endN c.toNat := by
  rcases h with h | h | ⟨_, c, hc, hs⟩
  · omega
  · omega
  · refine ⟨c, ?_, ?_⟩
    · have := congrArg ba hc
      rw [ba_bl] at this
      exact this
    · unfold endT
      rw [hc, hk]
      have := all256 (p := fun n => !spN n || ((!(n == 64) && !(n == 46)) == endN n)) (by decide +kernel) c.toNat c.toNat_lt
      have hs' : spN c.toNat = true := hs
      rw [hs'] at this
      have h2 := beq_iff_eq.1 this
      rw [← h2]
      have e1 : ∀ d : UInt8, (([c] : List UInt8) == [d]) = (c.toNat == d.toNat) := by
        intro d
        rw [Bool.eq_iff_iff, beq_iff_eq, beq_iff_eq, UInt8.toNat_inj]
        simp
      rw [e1, e1]
      rfl
set_option maxRecDepth 100000 in
set_option maxHeartbeats 2000000 in
theorem isEnder_any (t : Tk) (w : World) (ho : Ok t) :
    Calls Tryz.prog 165 #[tkV t] w fun e w' => e = .returned (.bool (endT t)) ∧ Below w.heap.size w w' := by
  have HA : Hid (Below w.heap.size w (w.alloc (boxT tkT t))) := Lib.hid ((Below.refl _ _).alloc (Nat.le_refl _) _)
  by_cases hk : t.kind = 3
  · obtain ⟨c, hc, he⟩ := end_ok ho hk
    have hq : (t.kind == 3) = true := by rw [hk]; rfl
    have HC := Lib.hid (fun W => containsE_any c W)
    rw [he]
    generalize endN c.toNat = q at *
    obtain ⟨kd, tx⟩ := t
    obtain rfl : tx = ⟨#[c]⟩ := hc
    clear he ho hk
    go_enter Tryz.func165, Tryz.ntmps165
    go_wp2_with fail
    refine (HC.out _).mono ?_
    rintro e w1 ⟨rfl, rfl⟩
    go_wp2_with fail
    go_ret
    exact ⟨rfl, HA.out⟩
  · have hq : (t.kind == 3) = false := by rw [beq_eq_false_iff_ne]; exact hk
    have HE : Hid (endT t = false) := Lib.hid (by unfold endT; rw [decide_eq_false hk]; rfl)
    rw [HE.out]
    clear ho hk
    go_enter Tryz.func165, Tryz.ntmps165
    go_wp2_with fail
    go_ret
    exact ⟨rfl, HA.out⟩

/-! The name of a phrase. -/
def TxAt (w wr : World) (v : Value) (ws : List ByteArray) : Prop := wr.ownsRow w.heap.size strT 1 v ws.length (ws.map Value.string) ∧ Below w.heap.size w wr
theorem TxAt.start (w : World) : TxAt w w (.slice none 0 0) [] := ⟨World.ownsRow_nil _ _ _ _, Below.refl _ _⟩
theorem TxAt.on {w wr w' : World} {v : Value} {ws : List ByteArray} (h : TxAt w wr v ws) (hb : Below wr.heap.size wr w') : TxAt w w' v ws := ⟨owns_below h.1 hb, h.2.trans (hb.mono h.2.size)⟩
theorem TxAt.add {w W : World} {n c : Nat} {a : Option Addr} {ws : List ByteArray} (h : TxAt w W (.slice a n c) ws) (hn : ws.length = n) (x : ByteArray) (hl : n ≤ 2000000) :
    ∃ a' c' w', (Builtin.append_ #[57, 57] 57 #[.slice a n c, .slice (some ⟨W.heap.size, 0, none⟩) 1 1]).run Tryz.prog (W.alloc (.cells #[.string x] strT)) = .ok (.slice a' (n + 1) c') w' ∧ Hid (TxAt w w' (.slice a' (n + 1) c') (ws ++ [x])) := by
  have ho := h.1
  obtain ⟨a', c', w', hr, hh⟩ := append_str W w.heap.size (.slice a n c) ws x ho (by omega) h.2.size
  rw [hn] at hr hh
  refine ⟨a', c', w', hr, Lib.hid ⟨?_, h.2.trans hh.out.2⟩⟩
  rw [List.length_append, hn]
  exact hh.out.1
theorem sum_cost (T : List Tk) : sumS (T.map (·.text)) ≤ cost T := by
  induction T with
  | nil => simp [sumS]
  | cons t T ih =>
    unfold sumS at *
    simp only [List.map_cons, List.sum_cons, cost] at *
    omega
set_option maxRecDepth 100000 in
set_option maxHeartbeats 2000000 in
theorem joinW_any (v : Value) (T : List Tk) (w : World) (hv : ReadsT w v T) (hc : cost T ≤ 1000000) :
    Calls Tryz.prog 163 #[v] w fun e w' => e = .returned (.string (ba (nameL T))) ∧ Below w.heap.size w w' := by
  have hl : T.length ≤ 1000000 := Nat.le_trans (len_cost T) hc
  obtain ⟨va, vc, rfl⟩ := hv.shape
  obtain ⟨n, hn⟩ : ∃ n, n = T.length := ⟨_, rfl⟩
  have HJ : Hid (∀ v' W, ReadsS W v' (T.map (·.text)) → Calls Tryz.prog 96 #[v', .string spS] W fun e w' => e = .returned (.string (ba (nameL T))) ∧ Below W.heap.size W w') := Lib.hid (fun v' W h => by
    have := join_any v' _ spS W h (by rw [List.length_map]; exact hl) (by decide) (by decide) (Nat.le_trans (sum_cost T) (by omega))
    rw [List.map_map] at this
    exact this)
  rw [← hn] at hv hl ⊢
  have HV := Lib.hid (fun k a ha => hv.at_ k a ha)
  have HNN := Lib.hid hn
  clear hv hn
  have HS := Lib.hid (TxAt.start w)
  go_enter Tryz.func163, Tryz.ntmps163
  go_wp2_with fail
  go_loopw [3, 8] (fun u i wr => ∃ k : Nat, k ≤ n ∧ i = .int .i64 k ∧ Hid (TxAt w wr u ((T.take k).map (·.text)))) (fun _ i _ => n - (intOf i).toNat)
  case atStart => exact ⟨0, Nat.zero_le _, rfl, HS⟩
  case round =>
    clear HS
    obtain ⟨k, hk, rfl, hB⟩ := hrel
    obtain ⟨ua, uc, rfl⟩ := owns_slice hB.out.1
    have hlk : ((T.take k).map (·.text)).length = k := by rw [List.length_map, List.length_take]; have := HNN.out; omega
    rw [hlk] at hB ⊢
    by_cases hlt : k < n
    · obtain ⟨t, ht⟩ : ∃ a, T[k]? = some a := ⟨T[k]'(by have := HNN.out; omega), List.getElem?_eq_getElem _⟩
      obtain ⟨b1, o1, rfl, hb1, r1⟩ := HV.out k t ht
      obtain ⟨c0, c1⟩ := two (range_below r1 hb1 hB.out.2)
      have hne : (T.take (k + 1)).map (·.text) = (T.take k).map (·.text) ++ [t.text] := by
        rw [List.take_add_one, ht]
        simp
      obtain ⟨a', c', w4, hr, hh⟩ := (hB.out.on ((Below.refl wr.heap.size wr).alloc (Nat.le_refl _) (boxT tkT t))).add hlk t.text (by omega)
      rw [show (wr.alloc (boxT tkT t)).heap.size = wr.heap.size + 1 by simp] at hr
      have HR := Lib.hid hr
      have HN : Hid (TxAt w w4 (.slice a' (k + 1) c') ((T.take (k + 1)).map (·.text))) := Lib.hid (by rw [hne]; exact hh.out)
      clear hr hh r1 ht hne hlk
      go_wp2_with (at_builtin; refine Lib.wpList_append_run _ rfl _ _ _ _ rfl _ _ rfl rfl _ _ HR.out ?_)
      go_roundw
      case rel => exact ⟨k + 1, by omega, by simp, HN⟩
      case measure => simp [intOf]; omega
    · have HE : Hid (ReadsS wr (.slice ua k uc) (T.map (·.text)) ∧ Below w.heap.size w wr) := Lib.hid (by
        have e : T.take k = T := List.take_of_length_le (by have := HNN.out; omega)
        have h := hB.out
        rw [e] at h
        exact ⟨owns_readsS h.1, h.2⟩)
      have HJ2 := Lib.hid (HJ.out _ _ HE.out.1)
      clear hlk
      go_wp2_with fail
      refine HJ2.out.mono ?_
      rintro e w2 ⟨rfl, hb⟩
      have HB2 := Lib.hid (HE.out.2.trans (hb.mono HE.out.2.size))
      clear hb
      go_wp2_with fail
      go_ret
      exact ⟨rfl, HB2.out⟩
end Go.Proofs.YtegbkfloiiilfaaGreatDoor.Mbx
