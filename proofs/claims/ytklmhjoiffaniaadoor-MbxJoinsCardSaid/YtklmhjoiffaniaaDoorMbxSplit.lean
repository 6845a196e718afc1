/-
  Walks: strings.Split at a space; the document's; texts joined.
-/
import Derived.Test.YtklmhjoiffaniaaDoorMbxPlain
import Derived.Test.YtklmhjoiffaniaaDoorAddrRefA
namespace Go.Proofs.YtklmhjoiffaniaaDoor.Mbx
open Go Go.RowKit
open Go.Proofs.YtklmhjoiffaniaaDoor.Lex
open Go.Proofs.YtklmhjoiffaniaaDoor.Addr (strT infoS ReadsP ReadsP.below read_cells append_str owns_readsP one_byte ba_cat)

abbrev spS : ByteArray := ⟨#[32]⟩
/-! Cut at spaces, and joined by spaces. -/
def pcs : List UInt8 → List UInt8 → List (List UInt8)
  | w, [] => [w]
  | w, x :: t => if x = 32 then w :: pcs [] t else pcs (w ++ [x]) t
def pieces (l : List UInt8) : List (List UInt8) := pcs [] l
def join : List (List UInt8) → List UInt8
  | [] => []
  | [p] => p
  | p :: q :: r => p ++ 32 :: join (q :: r)
theorem pcs_run : ∀ (a w t : List UInt8), (∀ x ∈ a, x ≠ 32) → pcs w (a ++ t) = pcs (w ++ a) t
  | [], w, t, _ => by simp
  | x :: a, w, t, h => by
    rw [List.cons_append, pcs, if_neg (h x (by simp)), pcs_run a _ t fun y hy => h y (by simp [hy])]
    simp
theorem pcs_hit (w t : List UInt8) : pcs w (32 :: t) = w :: pcs [] t := by rw [pcs, if_pos rfl]
theorem pcs_ne : ∀ (l w : List UInt8), pcs w l ≠ []
  | [], w => by simp [pcs]
  | x :: t, w => by
    rw [pcs]
    split
    · simp
    · exact pcs_ne t _
theorem join_cons {p : List UInt8} {q : List (List UInt8)} (h : q ≠ []) : join (p :: q) = p ++ 32 :: join q := by
  cases q with
  | nil => exact absurd rfl h
  | cons a r => rfl
theorem join_pcs : ∀ (l w : List UInt8), join (pcs w l) = w ++ l
  | [], w => by simp [pcs, join]
  | x :: t, w => by
    rw [pcs]
    split
    · rename_i h
      rw [join_cons (pcs_ne t []), join_pcs t [], h]
      rfl
    · rw [join_pcs t _]
      simp
theorem join_pieces (l : List UInt8) : join (pieces l) = l := join_pcs l []
theorem pcs_le : ∀ (l w p : List UInt8), p ∈ pcs w l → p.length ≤ w.length + l.length
  | [], w, p, h => by
    rw [pcs, List.mem_singleton] at h
    rw [h]
    simp
  | x :: t, w, p, h => by
    rw [pcs] at h
    split at h
    · rcases List.mem_cons.1 h with rfl | h
      · omega
      · have := pcs_le t [] p h
        simp only [List.length_nil, List.length_cons] at *
        omega
    · have := pcs_le t _ p h
      simp only [List.length_append, List.length_cons, List.length_nil] at *
      omega
theorem pieces_le {l p : List UInt8} (h : p ∈ pieces l) : p.length ≤ l.length := by
  have := pcs_le l [] p h
  simpa using this
theorem pcs_count : ∀ (l w : List UInt8), (pcs w l).length ≤ l.length + 1
  | [], w => by simp [pcs]
  | x :: t, w => by
    rw [pcs]
    split
    · have := pcs_count t []
      simp only [List.length_cons]
      omega
    · have := pcs_count t (w ++ [x])
      simp only [List.length_cons]
      omega

/-! The first space; how many there are. -/
theorem first_space : ∀ l : List UInt8, (Lib.indexByte l 32 = -1 ∧ ∀ x ∈ l, x ≠ 32) ∨ ∃ a b, l = a ++ 32 :: b ∧ (∀ x ∈ a, x ≠ 32) ∧ Lib.indexByte l 32 = (a.length : Int)
  | [] => .inl ⟨rfl, by simp⟩
  | x :: t => by
    by_cases hx : x = 32
    · subst hx
      exact .inr ⟨[], t, rfl, by simp, by simp [Lib.indexByte]⟩
    · rcases first_space t with ⟨h1, h2⟩ | ⟨a, b, h1, h2, h3⟩
      · refine .inl ⟨?_, ?_⟩
        · unfold Lib.indexByte
          simp [hx, h1]
        · intro y hy
          rcases List.mem_cons.1 hy with rfl | hy
          · exact hx
          · exact h2 y hy
      · refine .inr ⟨x :: a, b, by rw [h1]; rfl, ?_, ?_⟩
        · intro y hy
          rcases List.mem_cons.1 hy with rfl | hy
          · exact hx
          · exact h2 y hy
        · unfold Lib.indexByte
          simp [hx, h3]
theorem pieces_none {l : List UInt8} (h : ∀ x ∈ l, x ≠ 32) : pieces l = [l] := by
  have := pcs_run l [] [] h
  rw [List.append_nil] at this
  exact this
theorem pieces_some {a b : List UInt8} (h : ∀ x ∈ a, x ≠ 32) : pieces (a ++ 32 :: b) = a :: pieces b := by
  unfold pieces
  rw [pcs_run a [] _ h, pcs_hit]
  rfl
theorem count_none {l : List UInt8} (h : ∀ x ∈ l, x ≠ 32) : l.count 32 = 0 := List.count_eq_zero.2 fun hm => h 32 hm rfl
theorem count_some {a b : List UInt8} (h : ∀ x ∈ a, x ≠ 32) : (a ++ 32 :: b).count 32 = b.count 32 + 1 := by
  rw [List.count_append, count_none h]
  simp
theorem len_pieces : ∀ (n : Nat) (l : List UInt8), l.length ≤ n → (pieces l).length = l.count 32 + 1 := by
  intro n
  induction n with
  | zero =>
    intro l h
    obtain rfl := List.length_eq_zero_iff.1 (Nat.le_zero.1 h)
    rfl
  | succ n ih =>
    intro l h
    rcases first_space l with ⟨_, h2⟩ | ⟨a, b, rfl, h2, _⟩
    · rw [pieces_none h2, count_none h2]
      rfl
    · rw [pieces_some h2, count_some h2, List.length_cons, ih b (by simp at h; omega)]

set_option maxRecDepth 100000 in
set_option maxHeartbeats 1000000 in
theorem countS_any (s : ByteArray) (w : World) :
    Calls Tryd.prog 72 #[.string s, .string spS] w fun e w' => e = .returned (.int .i64 ((bl s).count 32)) ∧ w = w' := by
  go_enter Tryd.func72, Tryd.ntmps72
  go_wp2
  rw [run_callFunc_extern Tryd.func86 (by kernel_rfl) (by kernel_rfl) (by kernel_rfl) (e := Extern.BytealgCount.count) (by kernel_rfl), Lib.run_countString]
  simp only [Result.andThen]
  rw [Oper.upon_value]
  go_wp2
  go_ret
  exact ⟨rfl, rfl⟩
set_option maxRecDepth 100000 in
set_option maxHeartbeats 1000000 in
theorem indexLS_any (s : ByteArray) (w : World) :
    Calls Tryd.prog 87 #[.string s, .string spS] w fun e w' => e = .returned (.int .i64 (Lib.indexByte (bl s) 32)) ∧ w = w' := by
  have HX := Lib.hid (fun W => indexL_any s 32 W)
  cases hq : ([32] == s.toList)
  · go_enter Tryd.func87, Tryd.ntmps87
    go_wp2_with fail
    refine (HX.out _).mono ?_
    rintro e w1 ⟨rfl, rfl⟩
    go_wp2_with fail
    go_ret
    exact ⟨rfl, rfl⟩
  · have HE : Hid (Lib.indexByte (bl s) 32 = 0) := Lib.hid (by
      have h := beq_iff_eq.1 hq
      rw [Lib.toList_data] at h
      show Lib.indexByte s.data.toList 32 = 0
      rw [← h]
      rfl)
    go_enter Tryd.func87, Tryd.ntmps87
    go_wp2_with fail
    go_ret
    rw [HE.out]
    exact ⟨rfl, rfl⟩
set_option maxRecDepth 100000 in
set_option maxHeartbeats 1000000 in
theorem indexS_any (s : ByteArray) (w : World) :
    Calls Tryd.prog 73 #[.string s, .string spS] w fun e w' => e = .returned (.int .i64 (Lib.indexByte (bl s) 32)) ∧ w = w' := by
  have HX := Lib.hid (fun W => indexLS_any s W)
  go_enter Tryd.func73, Tryd.ntmps73
  go_wp2_with fail
  refine (HX.out _).mono ?_
  rintro e w1 ⟨rfl, rfl⟩
  go_wp2_with fail
  go_ret
  exact ⟨rfl, rfl⟩
/-- What has been cut off, and what is left. -/
structure Cut (l : List UInt8) (n : Nat) (done : List (List UInt8)) (rest : ByteArray) : Prop where
  eq : done ++ pieces (bl rest) = pieces l
  left : (bl rest).count 32 + done.length = n
  size : rest.size ≤ l.length
theorem Cut.start (s : ByteArray) : Cut (bl s) ((bl s).count 32) [] s := ⟨rfl, rfl, by rw [bl_len]; exact Nat.le_refl _⟩
theorem map_len (done : List (List UInt8)) : (done.map ba).length = done.length := List.length_map _
theorem Cut.next {l : List UInt8} {n : Nat} {done : List (List UInt8)} {rest : ByteArray} (h : Cut l n done rest) (hlt : done.length < n) :
    ∃ i : Nat, Lib.indexByte (bl rest) 32 = i ∧ i + 1 ≤ rest.size ∧ Cut l n (done ++ [bl (rest.extract 0 i)]) (rest.extract (i + 1) rest.size) := by
  rcases first_space (bl rest) with ⟨_, h2⟩ | ⟨a, b, h1, h2, h3⟩
  · have := h.left
    rw [count_none h2] at this
    omega
  · have hz : rest.size = a.length + 1 + b.length := by
      rw [← bl_len, h1]; simp; omega
    have e1 : bl (rest.extract 0 a.length) = a := by rw [bl_extract, h1]; simp
    have e2 : bl (rest.extract (a.length + 1) rest.size) = b := by
      rw [bl_from, h1, List.drop_append, List.drop_eq_nil_of_le (by omega)]
      simp
    refine ⟨a.length, h3, by omega, ?_, ?_, ?_⟩
    · rw [e1, e2, ← h.eq, h1, pieces_some h2]
      simp
    · rw [e2, List.length_append, ← h.left, h1, count_some h2]
      simp
      omega
    · have := h.size
      rw [ByteArray.size_extract]
      omega
theorem Cut.last {l : List UInt8} {n : Nat} {done : List (List UInt8)} {rest : ByteArray} (h : Cut l n done rest) (hlt : ¬ done.length < n) : done.length = n ∧ done ++ [bl rest] = pieces l := by
  rcases first_space (bl rest) with ⟨_, h2⟩ | ⟨a, b, h1, h2, h3⟩
  · have h4 := h.left
    rw [count_none h2] at h4
    have h5 := h.eq
    rw [pieces_none h2] at h5
    exact ⟨by omega, h5⟩
  · have h4 := h.left
    rw [h1, count_some h2] at h4
    omega
set_option maxRecDepth 100000 in
set_option maxHeartbeats 4000000 in
theorem genSplit_any (s : ByteArray) (w : World) (hs : s.size ≤ 1000000) :
    Calls Tryd.prog 56 #[.string s, .string spS, .int .i64 0, .int .i64 (-1)] w fun e w' => ∃ v, e = .returned v ∧ ReadsP w' v (pieces (bl s)) ∧ Below w.heap.size w w' := by
  have HC := Lib.hid (fun W => countS_any s W)
  have HX := Lib.hid (fun (r : ByteArray) W => indexS_any r W)
  have HI := Lib.hid (Cut.start s)
  obtain ⟨n, hn⟩ : ∃ n, n = (bl s).count 32 := ⟨_, rfl⟩
  have hns : n ≤ s.size := by rw [hn, ← bl_len]; exact List.count_le_length
  rw [← hn] at HC HI
  clear hn
  have hmin : min ((n : Int) + 1) ((s.size : Int) + 1) = ((n + 1 : Nat) : Int) := by omega
  have hmk : ∀ W : World, (Instr.makeSlice 69 (.int .i64 ((n : Int) + 1)) (.int .i64 ((n : Int) + 1))).run Tryd.prog W = .ok (.slice (some ⟨W.heap.size, 0, none⟩) (n + 1) (n + 1)) (W.alloc (.cells (madeCells #[.string ByteArray.empty] (n + 1)) strT)) :=
    run_make_row' (P := Tryd.prog) 69 strT (.string ByteArray.empty) 16 Tryd.underlying69 infoS rfl .i64 .i64 (n + 1) (by omega) (by omega)
  go_enter Tryd.func56, Tryd.ntmps56
  go_wp2_with fail
  refine (HC.out _).mono ?_
  rintro e w1 ⟨rfl, rfl⟩
  go_wp2_with fail
  clear hmk hmin
  go_loopw [0, 10] (fun s0 s10 wr => ∃ (done : List (List UInt8)) (rest : ByteArray), s0 = .string rest ∧ s10 = .int .i64 done.length ∧ done.length ≤ n ∧ Hid (Cut (bl s) n done rest) ∧ wr = w.alloc (.cells (Lib.cellsOf (done.map ba) (n + 1)) strT)) (fun _ i _ => n - (intOf i).toNat)
  case atStart => exact ⟨[], s, rfl, rfl, Nat.zero_le _, HI, by rw [List.map_nil, Lib.cellsOf_nil]⟩
  case round =>
    clear HI
    obtain ⟨done, rest, rfl, rfl, hd, hC, rfl⟩ := hrel
    have hrs : rest.size ≤ 1000000 := by have := hC.out.size; rw [bl_len] at this; omega
    have hnext : (Lib.cellsOf (done.map ba) (n + 1))[done.length]? = some (.string ByteArray.empty) := by
      have := Lib.cellsOf_next (done := done.map ba) (N := n + 1) (by rw [map_len]; omega)
      rwa [map_len] at this
    have hset := fun x : ByteArray => Lib.cellsOf_set (done := done.map ba) (N := n + 1) (by rw [map_len]; omega) x
    rw [map_len] at hset
    by_cases hlt : done.length < n
    · obtain ⟨i, hix, hi, hN⟩ := hC.out.next hlt
      have HXI := Lib.hid (fun W => HX.out rest W)
      rw [hix] at HXI
      have HN := Lib.hid hN
      have HS := Lib.hid hset
      have c1 : decide ((i : Int) < 0) = false := decide_eq_false (by omega)
      clear hix hN hset
      go_wp2_with fail
      refine (HXI.out _).mono ?_
      rintro e w1 ⟨rfl, rfl⟩
      go_wp2_with fail
      go_roundw
      case rel =>
        refine ⟨_, _, rfl, by simp, by simp; omega, HN, ?_⟩
        rw [List.map_append]
        have := HS.out (rest.extract 0 i)
        rw [List.map_cons, List.map_nil, ba_bl]
        rw [← this]
      case measure => simp [intOf]; omega
    · obtain ⟨h1, h2⟩ := hC.out.last hlt
      have HE := Lib.hid (And.intro h1 h2)
      have HS := Lib.hid hset
      clear h1 h2 hset
      go_wp2_with fail
      go_ret
      have hl : done.length = n := HE.out.1
      have hp : (pieces (bl s)).length = n + 1 := by rw [← HE.out.2, List.length_append, hl]; rfl
      have hm : (pieces (bl s)).map ba = done.map ba ++ [rest] := by rw [← HE.out.2, List.map_append, List.map_cons, List.map_nil, ba_bl]
      have hS := HS.out rest
      rw [← hm] at hS
      have hr := read_cells w (pieces (bl s))
      rw [hp, ← hS] at hr
      refine ⟨_, rfl, ?_, ?_⟩
      · simpa [hl] using hr
      · exact (Below.refl _ _).alloc (Nat.le_refl _) _
set_option maxRecDepth 100000 in
set_option maxHeartbeats 1000000 in
theorem split_any (s : ByteArray) (w : World) (hs : s.size ≤ 1000000) :
    Calls Tryd.prog 30 #[.string s, .string spS] w fun e w' => ∃ v, e = .returned v ∧ ReadsP w' v (pieces (bl s)) ∧ Below w.heap.size w w' := by
  have HG := Lib.hid (genSplit_any s w hs)
  go_enter Tryd.func30, Tryd.ntmps30
  go_wp2_with fail
  refine HG.out.mono ?_
  rintro e w1 ⟨v, rfl, hr, hb⟩
  have HR := Lib.hid (And.intro hr hb)
  clear hr hb
  go_wp2_with fail
  go_ret
  exact ⟨v, rfl, HR.out⟩
/-- The pieces so far, the one at hand, and what lay there before. -/
structure SpAt (s : ByteArray) (w wr : World) (k : Nat) (done : List (List UInt8)) (acc : List UInt8) (ov : Value) : Prop where
  eq : done ++ pcs acc ((bl s).drop k) = pieces (bl s)
  few : done.length ≤ k
  acc : acc.length ≤ k
  owns : wr.ownsRow w.heap.size strT 1 ov done.length ((done.map ba).map Value.string)
  below : Below w.heap.size w wr
set_option maxRecDepth 100000 in
set_option maxHeartbeats 2000000 in
theorem refSplit_any (s : ByteArray) (w : World) (hs : s.size ≤ 1000000) :
    Calls Tryd.prog 33 #[.string s, .int .u8 32] w fun e w' => ∃ v, e = .returned v ∧ ReadsP w' v (pieces (bl s)) ∧ Below w.heap.size w w' := by
  have HI : Hid (SpAt s w w 0 [] [] (.slice none 0 0)) := Lib.hid ⟨rfl, Nat.le_refl _, Nat.le_refl _, World.ownsRow_nil _ _ _ _, Below.refl _ _⟩
  go_enter Tryd.func33, Tryd.ntmps33
  go_wp2_with fail
  go_loopw [5, 6, 7] (fun ov a i wr => ∃ (k : Nat) (done : List (List UInt8)) (acc : List UInt8), k ≤ s.size ∧ i = .int .i64 k ∧ a = .string (ba acc) ∧ Hid (SpAt s w wr k done acc ov)) (fun _ _ i _ => s.size - (intOf i).toNat)
  case atStart => exact ⟨0, [], [], Nat.zero_le _, rfl, rfl, HI⟩
  case round =>
    clear HI
    obtain ⟨k, done, acc, hk, rfl, rfl, hI⟩ := hrel
    obtain ⟨oa, oc, rfl⟩ := owns_slice hI.out.owns
    obtain ⟨n, hn⟩ : ∃ n, n = done.length := ⟨_, rfl⟩
    have hnk : n ≤ k := by rw [hn]; exact hI.out.few
    have hacc : (ba acc).size ≤ k := by rw [ba_size]; exact hI.out.acc
    by_cases hlt : k < s.size
    · have h8 : s[k].toNat < 256 := s[k].toNat_lt
      have hd := drop_cons s k hlt
      by_cases h32 : s[k] = 32
      · have t1 : ((s[k].toNat : Int) == 32) = true := by rw [h32]; rfl
        obtain ⟨a', c', w2, hr, hh⟩ := append_str wr w.heap.size _ (done.map ba) (ba acc) (by rw [List.length_map]; exact hI.out.owns) (by rw [List.length_map]; omega) hI.out.below.size
        rw [List.length_map, ← hn] at hr hh
        have HR := Lib.hid hr
        have HN : Hid (SpAt s w w2 (k + 1) (done ++ [acc]) [] (.slice a' (n + 1) c')) := Lib.hid ⟨by
            have h := hI.out.eq
            rw [hd, h32, pcs_hit] at h
            rw [← h]
            simp, by simp; omega, by simp, by
            have h := hh.out.1
            rw [List.map_append, List.length_append, ← hn]
            exact h, hI.out.below.trans hh.out.2⟩
        rw [← hn]
        clear hr hh hd h32 hI hn
        generalize ba acc = x at *
        go_wp2_with (at_builtin; refine Lib.wpList_append_run _ rfl _ _ _ _ rfl _ _ rfl rfl _ _ HR.out ?_)
        go_roundw
        case rel => exact ⟨k + 1, _, [], by omega, by simp, rfl, HN⟩
        case measure => simp [intOf]; omega
      · have t1 : ((s[k].toNat : Int) == 32) = false := by
          rw [beq_eq_false_iff_ne]
          intro h
          exact h32 (UInt8.toNat.inj (by show s[k].toNat = 32; omega))
        have hx := one_byte s k hlt
        have hz1 : (ba [s[k]]).size = 1 := rfl
        have HN : Hid (SpAt s w wr (k + 1) done (acc ++ [s[k]]) (.slice oa done.length oc)) := Lib.hid ⟨by
            have h := hI.out.eq
            rw [hd, pcs, if_neg h32] at h
            exact h, by have := hI.out.few; omega, by have := hI.out.acc; simp; omega, hI.out.owns, hI.out.below⟩
        have HJ := Lib.hid (ba_cat acc [s[k]])
        rw [← hn] at HN ⊢
        clear hd h32 hI hn
        generalize ba acc = x at *
        generalize ba [s[k]] = y at *
        go_wp2_with fail
        go_roundw
        case rel => exact ⟨k + 1, done, _, by omega, by simp, by rw [HJ.out], HN⟩
        case measure => simp [intOf]; omega
    · obtain ⟨a', c', w2, hr, hh⟩ := append_str wr w.heap.size _ (done.map ba) (ba acc) (by rw [List.length_map]; exact hI.out.owns) (by rw [List.length_map]; omega) hI.out.below.size
      rw [List.length_map, ← hn] at hr hh
      have HR := Lib.hid hr
      have HE : Hid (ReadsP w2 (.slice a' (n + 1) c') (pieces (bl s)) ∧ Below w.heap.size w w2) := Lib.hid (by
        have h := hI.out.eq
        rw [drop_end s k hlt, pcs] at h
        refine ⟨?_, hI.out.below.trans hh.out.2⟩
        rw [← h]
        refine owns_readsP (n := n + 1) (B := w.heap.size) ?_ (by simp [hn]) (by simp)
        rw [List.map_append]
        exact hh.out.1)
      rw [← hn]
      clear hr hh hI hn
      generalize ba acc = x at *
      go_wp2_with (at_builtin; refine Lib.wpList_append_run _ rfl _ _ _ _ rfl _ _ rfl rfl _ _ HR.out ?_)
      go_ret
      exact ⟨_, rfl, HE.out⟩

end Go.Proofs.YtklmhjoiffaniaaDoor.Mbx
