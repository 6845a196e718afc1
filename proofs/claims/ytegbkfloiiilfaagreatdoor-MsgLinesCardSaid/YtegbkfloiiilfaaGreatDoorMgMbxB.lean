/-
  Walks of mbx, the second part.
-/
import Derived.Test.YtegbkfloiiilfaaGreatDoorMgMbxA

/-
  The reader in memory; walks: take, address.
-/
namespace Go.Proofs.YtegbkfloiiilfaaGreatDoor.Mbx
open Go Go.RowKit
open Go.Proofs.YtegbkfloiiilfaaGreatDoor.Lex
open Go.Proofs.YtegbkfloiiilfaaGreatDoor.Addr (Ad noAd ofL adT adB boxA cellsA new_boxA twoA AdPost of_any of_cases cost_drop)

abbrev rdT : TypeId := 143
/-- The reader, a struct of two cells behind all that lay in w1: the tokens that are left, and the boxes. -/
structure RdAt (w1 wr : World) (T : List Tk) (B : List Bx) : Prop where
  mem : ∃ a cap bv, Lies wr w1.heap.size #[.slice a T.length cap, bv] rdT ∧ ReadsT w1 (.slice a T.length cap) T ∧ wr.ownsRow (w1.heap.size + 1) bxT 3 bv B.length (B.flatMap bxC)
  below : Below w1.heap.size w1 wr
  ok : ∀ t ∈ T, Ok t
  cost : cost T ≤ 100000
  few : B.length ≤ 100
theorem len_le {T : List Tk} (h : cost T ≤ 100000) : T.length ≤ 100000 := Nat.le_trans (len_cost T) h
section
variable {w1 wr w' : World} {T T' : List Tk} {B : List Bx}
theorem RdAt.on (h : RdAt w1 wr T B) (hb : Below wr.heap.size wr w') : RdAt w1 w' T B := by
  obtain ⟨a, cap, bv, h1, h2, h3⟩ := h.mem
  exact ⟨⟨a, cap, bv, h1.same (hb.block _ h1.lt), h2, owns_below h3 hb⟩, h.below.trans (hb.mono h.below.size), h.ok, h.cost, h.few⟩
theorem RdAt.rest (h : RdAt w1 wr T B) {v : Value} (hr : ReadsT w1 v T') (hok : ∀ t ∈ T', Ok t) (hc : Lex.cost T' ≤ 100000) : RdAt w1 (wr.setCell ⟨w1.heap.size, 0, none⟩ v) T' B := by
  obtain ⟨a, cap, bv, h1, h2, h3⟩ := h.mem
  obtain ⟨a', c', rfl⟩ := hr.shape
  refine ⟨⟨a', c', bv, ?_, hr, ?_⟩, h.below.setCell (p := ⟨w1.heap.size, 0, none⟩) (Nat.le_refl _) _, hok, hc, h.few⟩
  · exact h1.set 0 _
  · refine Fr.owns (F := fun k => k = w1.heap.size) h3 (Fr.one wr _ 0 _) (fun k hk e => ?_)
    have := (h3.lt k hk).1
    omega
theorem RdAt.drop (h : RdAt w1 wr T B) {v : Value} (k : Nat) (hr : ReadsT w1 v (T.drop k)) : RdAt w1 (wr.setCell ⟨w1.heap.size, 0, none⟩ v) (T.drop k) B :=
  h.rest hr (fun t ht => h.ok t (List.mem_of_mem_drop ht)) (Nat.le_trans (cost_drop T k) h.cost)
end
/-- What the cells are. -/
theorem RdAt.cells {w1 wr : World} {T : List Tk} {B : List Bx} (h : RdAt w1 wr T B) : ∃ a n cap ba bc, n = T.length ∧ ReadsT w1 (.slice a n cap) T ∧ wr.cell? ⟨w1.heap.size, 0, none⟩ = some (.slice a n cap) ∧ wr.cell? ⟨w1.heap.size, 1, none⟩ = some (.slice ba B.length bc) ∧ wr.frozen? ⟨w1.heap.size, 0, none⟩ = false ∧ wr.frozen? ⟨w1.heap.size, 1, none⟩ = false ∧ wr.ownsRow (w1.heap.size + 1) bxT 3 (.slice ba B.length bc) B.length (B.flatMap bxC) := by
  obtain ⟨a, cap, bv, h1, h2, h3⟩ := h.mem
  have hsh : ∃ ba bc, bv = .slice ba B.length bc := by
    rcases h3.2 with ⟨rfl, h0⟩ | ⟨g, cap, cur, rfl, _⟩
    · exact ⟨_, _, by rw [h0]⟩
    · exact ⟨_, _, rfl⟩
  obtain ⟨ba, bc, rfl⟩ := hsh
  exact ⟨a, T.length, cap, ba, bc, rfl, h2, h1.cell 0, h1.cell 1, h1.free 0, h1.free 1, h3⟩

set_option maxRecDepth 100000 in
set_option maxHeartbeats 2000000 in
theorem take_any (w1 wr : World) (T : List Tk) (B : List Bx) (c : UInt8) (h : RdAt w1 wr T B) :
    Calls Tryz.prog 134 #[.pointer (some ⟨w1.heap.size, 0, none⟩), .string ⟨#[c]⟩] wr fun e w' => e = .returned (.bool (begB c T)) ∧ RdAt w1 w' (if begB c T = true then T.drop 1 else T) B := by
  obtain ⟨a, n, cap, _, _, hn, hr, c0, _, f0, _, _⟩ := h.cells
  have HB := Lib.hid (begins_any (.slice a n cap) T c wr (hr.below h.below) (Nat.le_trans (len_le h.cost) (by decide)))
  have HH := Lib.hid h
  cases hb : begB c T
  · rw [hb] at HB
    clear h hr hn
    go_enter Tryz.func134, Tryz.ntmps134
    go_wp2_with fail
    refine HB.out.mono ?_
    rintro e w2 ⟨rfl, rfl⟩
    go_wp2_with fail
    go_ret
    exact ⟨rfl, HH.out⟩
  · rw [hb] at HB
    have h1 : 1 ≤ n := by
      cases T with
      | nil => cases hb
      | cons t T => rw [hn]; simp
    obtain ⟨a', m, c', -, hsl, hrd⟩ := from_any w1 hr 1 h1
    have HR := Lib.hid (hrd w1 hr)
    rw [show ((1 : Nat) : Int) = 1 from rfl] at hsl
    clear h hr hn hrd
    go_enter Tryz.func134, Tryz.ntmps134
    go_wp2_with fail
    refine HB.out.mono ?_
    rintro e w2 ⟨rfl, rfl⟩
    go_wp2_with fail
    go_ret
    refine ⟨rfl, ?_⟩
    rw [← List.drop_one]
    exact HH.out.drop 1 HR.out

/-! An address, told with its name. -/
theorem RdAt.push {w1 W : World} {T T' : List Tk} {B : List Bx} {v bv : Value} (h : RdAt w1 W T B) (b : Bx) (hB : B.length < 100) {w4 : World} {n : Nat} (hn : n = B.length)
    (ho : w4.ownsRow (w1.heap.size + 1) bxT 3 bv (n + 1) ((B ++ [b]).flatMap bxC)) (hz : W.heap.size ≤ w4.heap.size) (hg : ∀ k, k < W.heap.size → k ≤ w1.heap.size → w4.heap[k]? = W.heap[k]?) (hw : w4.os = W.os ∧ w4.tape = W.tape ∧ w4.output = W.output)
    (hr : ReadsT w1 v T') (hok : ∀ t ∈ T', Ok t) (hc : Lex.cost T' ≤ 100000) :
    RdAt w1 ((w4.setCell ⟨w1.heap.size, 1, none⟩ bv).setCell ⟨w1.heap.size, 0, none⟩ v) T' (B ++ [b]) := by
  obtain ⟨a, cap, bv0, h1, h2, h3⟩ := h.mem
  have e1 : Lies w4 w1.heap.size #[.slice a T.length cap, bv0] rdT := h1.same (hg _ h1.lt (Nat.le_refl _))
  obtain ⟨a', c', rfl⟩ := hr.shape
  have e2 := (e1.set 1 bv).set 0 (.slice a' T'.length c')
  have hb : Below w1.heap.size w1 w4 := ⟨hw.1.trans h.below.os, hw.2.1.trans h.below.tape, hw.2.2.trans h.below.output, Nat.le_trans h.below.size hz, fun k hk => (hg k (Nat.lt_of_lt_of_le hk h.below.size) (Nat.le_of_lt hk)).trans (h.below.block k hk)⟩
  have hf : Fr (fun k => k = w1.heap.size) w4 ((w4.setCell ⟨w1.heap.size, 1, none⟩ bv).setCell ⟨w1.heap.size, 0, none⟩ (.slice a' T'.length c')) := Fr.setCell (Fr.one w4 w1.heap.size 1 _) (fun _ => rfl) _
  refine ⟨⟨a', c', bv, e2, hr, ?_⟩, (hb.setCell (p := ⟨w1.heap.size, 1, none⟩) (Nat.le_refl _) _).setCell (p := ⟨w1.heap.size, 0, none⟩) (Nat.le_refl _) _, hok, hc, by rw [List.length_append]; simp; omega⟩
  have hl : (B ++ [b]).length = n + 1 := by rw [List.length_append, hn]; rfl
  rw [hl]
  refine Fr.owns ho hf (fun k hk e => ?_)
  have := (ho.lt k hk).1
  omega
def AdrR (w1 : World) (R : Nat × List Bx) (T' : List Tk) (e : Ending) (w' : World) : Prop := e = .returned (.int .i64 R.1) ∧ Below w1.heap.size w1 w' ∧ (R.1 = 0 → RdAt w1 w' T' R.2)
theorem AdrR.no {w1 w' : World} {R : Nat × List Bx} {T' : List Tk} {c : Nat} (h : R = (c, [])) (hc : c ≠ 0) (hb : Below w1.heap.size w1 w') : AdrR w1 R T' (.returned (.int .i64 c)) w' := by
  subst h
  exact ⟨rfl, hb, fun h => absurd h hc⟩
theorem AdrR.yes {w1 w' : World} {R : Nat × List Bx} {T' : List Tk} {B : List Bx} (h : R = (0, B)) (hb : RdAt w1 w' T' B) : AdrR w1 R T' (.returned (.int .i64 0)) w' := by
  subst h
  exact ⟨rfl, hb.below, fun _ => hb⟩
theorem RdAt.lt {w1 wr : World} {T : List Tk} {B : List Bx} (h : RdAt w1 wr T B) : w1.heap.size < wr.heap.size := by
  obtain ⟨_, _, _, h1, _⟩ := h.mem
  exact h1.lt
theorem old_cell {w0 W : World} {b i : Nat} {v : Value} (h : w0.cell? ⟨b, i, none⟩ = some v) (hb : b < w0.heap.size) (hW : Below w0.heap.size w0 W) : W.cell? ⟨b, i, none⟩ = some v := (hW.cell (p := ⟨b, i, none⟩) hb).trans h
theorem old_frozen {w0 W : World} {b i : Nat} {v : Bool} (h : w0.frozen? ⟨b, i, none⟩ = v) (hb : b < w0.heap.size) (hW : Below w0.heap.size w0 W) : W.frozen? ⟨b, i, none⟩ = v := by
  have e := hW.block b hb
  unfold World.frozen? at *
  rw [show (⟨b, i, none⟩ : Addr).block = b from rfl] at *
  rw [e]
  exact h
theorem blk_cell {W W' : World} {b i : Nat} {v : Option Value} (h : W.cell? ⟨b, i, none⟩ = v) (e : W'.heap[b]? = W.heap[b]?) : W'.cell? ⟨b, i, none⟩ = v := by
  unfold World.cell? at *
  rw [show (⟨b, i, none⟩ : Addr).block = b from rfl] at *
  rw [e]
  exact h
theorem blk_frozen {W W' : World} {b i : Nat} {v : Bool} (h : W.frozen? ⟨b, i, none⟩ = v) (e : W'.heap[b]? = W.heap[b]?) : W'.frozen? ⟨b, i, none⟩ = v := by
  unfold World.frozen? at *
  rw [show (⟨b, i, none⟩ : Addr).block = b from rfl] at *
  rw [e]
  exact h
set_option maxRecDepth 100000 in
set_option maxHeartbeats 8000000 in
theorem address_any (w1 w0 : World) (T : List Tk) (B : List Bx) (nm : ByteArray) (h : RdAt w1 w0 T B) :
    Calls Tryz.prog 162 #[.pointer (some ⟨w1.heap.size, 0, none⟩), .string nm] w0 (AdrR w1 (adrP (bl nm) (T.take (segN T)) B) (T.drop (segN T))) := by
  obtain ⟨a, n, cap, ba0, bc0, hn, hr, c0, c1, f0, f1, ho⟩ := h.cells
  have hlt := h.lt
  have HC := Lib.hid (fun W (hW : Below w0.heap.size w0 W) => And.intro (old_cell c0 hlt hW) (old_cell c1 hlt hW))
  have HF := Lib.hid (fun W (hW : Below w0.heap.size w0 W) => And.intro (old_frozen f0 hlt hW) (old_frozen f1 hlt hW))
  have HV := Lib.hid (fun k t ht => hr.at_ k t ht)
  have HH := Lib.hid h
  have HNN := Lib.hid hn
  have hnl : n ≤ 100000 := by rw [hn]; exact len_le h.cost
  have hsl : segN T ≤ n := by rw [hn]; exact List.findIdx_le_length
  obtain ⟨a1, m1, d1, hm1, hs1, hr1⟩ := to_any w1 hr (segN T) hsl
  obtain ⟨a2, m2, d2, hm2, hs2, hr2⟩ := from_any w1 hr (segN T) hsl
  have HO : Hid (∀ W, Below w0.heap.size w0 W → Calls Tryz.prog 166 #[.slice a1 m1 d1] W (AdPost (ofL (T.take (segN T))) W)) := Lib.hid (fun W hW => by
    refine of_any _ _ W ((hr1 w1 hr).below (h.below.trans (hW.mono h.below.size))) ?_ ?_
    · rw [List.length_take]; omega
    · exact Nat.le_trans (costT_le T _) h.cost)
  have HR2 := Lib.hid (hr2 w1 hr)
  have HG : Hid (T.take (segN T) = T.take (segN T)) := Lib.hid rfl
  obtain ⟨g, hg⟩ : ∃ g, g = segN T := ⟨_, rfl⟩
  have HGE := Lib.hid hg
  rw [← hg] at hsl hs1 hs2 HO HR2 ⊢
  generalize hof : ofL (T.take g) = R at *
  obtain ⟨⟨rl, rd⟩, rc⟩ := R
  obtain ⟨bn, hbn⟩ : ∃ bn, bn = B.length := ⟨_, rfl⟩
  have hfew : bn ≤ 100 := by rw [hbn]; exact h.few
  have HBN := Lib.hid hbn
  have HOF := Lib.hid hof
  rw [← hbn] at HC ho c1
  have HOW := Lib.hid ho
  clear h hr hn hr1 hr2 hm1 hm2 HG hg hof hbn c0 c1 f0 f1 ho
  go_enter Tryz.func162, Tryz.ntmps162
  go_wp2_with fail
  go_loopw [5] (fun i wr => ∃ k : Nat, k ≤ g ∧ i = .int .i64 k ∧ Hid (∀ x ∈ T.take k, endT x = false) ∧ Hid (Below w0.heap.size w0 wr)) (fun i _ => n - (intOf i).toNat)
  case atStart => exact ⟨0, Nat.zero_le _, rfl, Lib.hid (by simp), Lib.hid (Below.refl _ _)⟩
  case round =>
    obtain ⟨k, hk, rfl, hall, hB⟩ := hrel
    obtain ⟨c0, c1⟩ := HC.out wr hB.out
    by_cases hkg : k < g
    · obtain ⟨t, ht⟩ : ∃ a, T[k]? = some a := ⟨T[k]'(by have := HNN.out; omega), List.getElem?_eq_getElem _⟩
      obtain ⟨b1, o1, rfl, hb1, r1⟩ := HV.out k t ht
      obtain ⟨d0, d1'⟩ := two (range_below r1 hb1 (HH.out.below.mono (Nat.le_refl _) |>.trans (hB.out.mono HH.out.below.size)))
      have he : endT t = false := by
        rw [← Bool.not_eq_true]
        intro he
        have := seg_here ht hall.out he
        have := HGE.out
        omega
      have HN := Lib.hid (all_take ht hall.out he)
      have HE := Lib.hid (isEnder_any t wr (HH.out.ok t (List.mem_of_getElem? ht)))
      rw [he] at HE
      clear ht r1 he
      go_wp2_with fail
      refine HE.out.mono ?_
      rintro e w2 ⟨rfl, hb⟩
      have HB2 := Lib.hid (hB.out.trans (hb.mono hB.out.size))
      clear hb
      go_wp2_with fail
      go_roundw
      case rel => exact ⟨k + 1, by omega, by simp, HN, HB2⟩
      case measure => simp [intOf]; omega
    · obtain rfl : k = g := by omega
      clear hkg
      have hways : (k < n ∧ ∃ t, T[k]? = some t ∧ endT t = true) ∨ ¬ k < n := by
        by_cases hkn : k < n
        · left
          have hl : k < T.length := by have := HNN.out; omega
          refine ⟨hkn, T[k], List.getElem?_eq_getElem hl, ?_⟩
          have h1 := HGE.out
          subst h1
          exact List.findIdx_getElem (w := hl)
        · right; omega
      rcases hways with ⟨hkn, t, ht, he⟩ | hkn
      obtain ⟨b1, o1, rfl, hb1, r1⟩ := HV.out k t ht
      obtain ⟨d0, d1'⟩ := two (range_below r1 hb1 (HH.out.below.mono (Nat.le_refl _) |>.trans (hB.out.mono HH.out.below.size)))
      have HE := Lib.hid (isEnder_any t wr (HH.out.ok t (List.mem_of_getElem? ht)))
      rw [he] at HE
      clear ht r1 he
      go_wp2_with fail
      refine HE.out.mono ?_
      rintro e w2 ⟨rfl, hb⟩
      have HB2 := Lib.hid (hB.out.trans (hb.mono hB.out.size))
      obtain ⟨e0, e1⟩ := HC.out w2 HB2.out
      clear hb c0 c1 d0 d1'
      go_wp2_with fail
      rotate_left
      obtain ⟨w2, hw2⟩ : ∃ w2, w2 = wr := ⟨_, rfl⟩
      subst hw2
      have HB2 := Lib.hid hB.out
      go_wp2_with fail
      all_goals
        refine (HO.out _ HB2.out).mono ?_
        rintro e w3 ⟨rfl, hb⟩
        have HB3 := Lib.hid (HB2.out.trans (hb.mono HB2.out.size))
        have HB4 : Hid (Below w0.heap.size w0 (w3.alloc (boxA adT (ba rl) (ba rd)))) := Lib.hid (HB3.out.alloc HB3.out.size _)
        have HB5 : Hid (Below w1.heap.size w1 (w3.alloc (boxA adT (ba rl) (ba rd)))) := Lib.hid (HH.out.below.trans (HB4.out.mono HH.out.below.size))
        clear hb
        dsimp only
        by_cases hrc : rc = 0
        · obtain ⟨g0, g1⟩ := HC.out _ HB4.out
          by_cases hfull : bn = 100
          · have HX : Hid (adrP (bl nm) (T.take k) B = (8, [])) := Lib.hid (adr_full (by rw [HOF.out]; exact hrc) (by rw [← HBN.out]; exact hfull))
            have hq : ((bn : Int) == 100) = true := by rw [hfull]; rfl
            have hq0 : ((rc : Int) != 0) = false := by rw [hrc]; rfl
            clear hfull hrc
            go_wp2_with fail
            go_ret
            exact AdrR.no HX.out (by decide) HB5.out
          · have HX : Hid (adrP (bl nm) (T.take k) B = (0, B ++ [⟨nm, ba rl, ba rd⟩])) := Lib.hid (by
              rw [adr_yes (by rw [HOF.out]; exact hrc) (by rw [← HBN.out]; exact hfull), HOF.out]
              show (0, B ++ [⟨ba (bl nm), ba rl, ba rd⟩]) = _
              rw [ba_bl])
            have hq : ((bn : Int) == 100) = false := by rw [beq_eq_false_iff_ne]; omega
            have hq0 : ((rc : Int) != 0) = false := by rw [hrc]; rfl
            have hA := new_boxA w3 adT (ba rl) (ba rd)
            obtain ⟨p0, p1⟩ := twoA hA
            obtain ⟨q0, q1⟩ := HF.out _ HB4.out
            have hod : (w3.alloc (boxA adT (ba rl) (ba rd))).drew.ownsRow (w1.heap.size + 1) bxT 3 (.slice ba0 bn bc0) bn (B.flatMap bxC) := owns_below HOW.out HB4.out.drew
            obtain ⟨a', c', w4, hr, hh⟩ := append_oneB bn HBN.out.symm (w3.alloc (boxA adT (ba rl) (ba rd))).drew (w1.heap.size + 1) (.slice ba0 bn bc0) ⟨nm, ba rl, ba rd⟩ hod (by omega) (by simp; have := HB3.out.size; omega)
            rw [show (w3.alloc (boxA adT (ba rl) (ba rd))).drew.heap.size = w3.heap.size + 1 by simp] at hr
            have HR : Hid ((Builtin.append_ #[bxsT, bxsT] bxsT #[.slice ba0 bn bc0, .slice (some ⟨w3.heap.size + 1, 0, none⟩) 1 1]).run Tryz.prog ((w3.alloc (boxA adT (ba rl) (ba rd))).alloc (boxB bxT ⟨nm, ba rl, ba rd⟩)).drew = .ok (.slice a' (bn + 1) c') w4) := Lib.hid hr
            have hblk : ∀ j, j < w3.heap.size + 1 → j ≤ w1.heap.size → w4.heap[j]? = (w3.alloc (boxA adT (ba rl) (ba rd))).heap[j]? := by
              intro j hj hj2
              have h1 := hh.out.2.2.1.block j (by simp; omega) (fun e => by have := hh.out.2.2.2 j e.symm; omega)
              rw [h1]
              exact Below.heap_alloc _ _ _ (by simp; omega)
            have HP := Lib.hid fun (v : Value) hrd hok hco => ((HH.out.on HB4.out).push (w4 := w4) (v := v) (bv := .slice a' (bn + 1) c') (T' := T.drop k) ⟨nm, ba rl, ba rd⟩ (by have := HBN.out; omega) HBN.out hh.out.1 (by have := hh.out.2.1; simpa using this) (fun j hj hj2 => hblk j (by simpa using hj) hj2) ⟨hh.out.2.2.1.os, hh.out.2.2.1.tape, hh.out.2.2.1.output⟩ hrd hok hco)
            have hbe := hblk w1.heap.size (by have := HB3.out.size; omega) (Nat.le_refl _)
            have z0 := blk_cell g0 hbe
            have z1 := blk_frozen q0 hbe
            have z2 := blk_frozen q1 hbe
            have z3 := blk_cell g1 hbe
            have HRD : Hid (ReadsT w1 (.slice a2 m2 d2) (T.drop k) ∧ (∀ t ∈ T.drop k, Ok t) ∧ Lex.cost (T.drop k) ≤ 100000) := Lib.hid ⟨HR2.out, fun t ht => HH.out.ok t (List.mem_of_mem_drop ht), Nat.le_trans (cost_drop T k) HH.out.cost⟩
            obtain ⟨y0, y1⟩ := HC.out _ (HB4.out.alloc HB4.out.size (boxB bxT ⟨nm, ba rl, ba rd⟩))
            obtain ⟨x0, x1⟩ := twoA (range_below hA (by simp) ((Below.refl _ _).alloc (Nat.le_refl _) (boxB bxT ⟨nm, ba rl, ba rd⟩)))
            clear hfull hrc hr hh hblk hod hA hbe
            go_wp2_with fail
            go_region_law ((refine step_append_run (by rfl) _ _ _ (by rfl) _ _ _ (by rfl) (by rfl) HR.out ?_))
            all_goals
              go_wp2_with fail
              go_ret
              exact AdrR.yes HX.out (HP.out _ HRD.out.1 HRD.out.2.1 HRD.out.2.2)
        · have HX : Hid (adrP (bl nm) (T.take k) B = (rc, [])) := Lib.hid (by
            rw [adr_bad (by rw [HOF.out]; exact hrc), HOF.out])
          have hq0 : ((rc : Int) != 0) = true := by rw [bne_iff_ne]; omega
          go_wp2_with fail
          go_ret
          exact AdrR.no HX.out hrc HB5.out
end Go.Proofs.YtegbkfloiiilfaaGreatDoor.Mbx

/-
  Walks: mailbox, group, part, list.
-/
namespace Go.Proofs.YtegbkfloiiilfaaGreatDoor.Mbx
open Go Go.RowKit
open Go.Proofs.YtegbkfloiiilfaaGreatDoor.Lex

/-- What a step of the reader tells: a code; the pieces that are left and the boxes. -/
def RsP (w1 : World) (N : Nat) (R : Rs) (e : Ending) (w' : World) : Prop := e = .returned (.int .i64 R.1) ∧ Below w1.heap.size w1 w' ∧ (R.1 = 0 → ∃ T', T'.length ≤ N ∧ cutL T' = R.2.1 ∧ RdAt w1 w' T' R.2.2)
theorem RsP.no {w1 w' : World} {N : Nat} {R : Rs} {c : Nat} (h : R = Mbx.no c) (hc : c ≠ 0) (hb : Below w1.heap.size w1 w') : RsP w1 N R (.returned (.int .i64 c)) w' := by
  subst h
  exact ⟨rfl, hb, fun h => absurd h hc⟩
theorem RsP.yes {w1 w' : World} {N : Nat} {R : Rs} {T : List Tk} {ps : List Pc} {B : List Bx} (h : R = (0, ps, B)) (hN : T.length ≤ N) (hT : cutL T = ps) (hb : RdAt w1 w' T B) : RsP w1 N R (.returned (.int .i64 0)) w' := by
  subst h
  exact ⟨rfl, hb.below, fun _ => ⟨T, hN, hT, hb⟩⟩
theorem drop_le (T : List Tk) (k : Nat) : (T.drop k).length ≤ T.length := by rw [List.length_drop]; omega
theorem beg_take {c : UInt8} (hc : c ≠ 64 ∧ c ≠ 46) {T : List Tk} {ps : List Pc} (h : cutL T = ps) : begB c T = (takeP c ps).isSome ∧ (begB c T = true → takeP c ps = some (cutL (T.drop 1))) := by
  subst h
  rw [take_cut c hc]
  cases begB c T
  · exact ⟨rfl, fun h => by cases h⟩
  · exact ⟨rfl, fun _ => rfl⟩
theorem mbx_plain {p : Pc} {r : List Pc} {B : List Bx} (ha : angle p = false) : mbxP (p :: r) B = if (adrP [] p.l B).1 = 0 then (0, ⟨[], p.s⟩ :: r, (adrP [] p.l B).2) else no (adrP [] p.l B).1 := by
  rw [mbxP, ha, if_neg (by decide)]
theorem mbx_angle {p q : Pc} {r : List Pc} {B : List Bx} (ha : angle p = true) : mbxP (p :: q :: r) B = if (adrP (nameL p.l) q.l B).1 = 0 then (if sgB q.s 62 = true then (0, r, (adrP (nameL p.l) q.l B).2) else no 130) else no (adrP (nameL p.l) q.l B).1 := by
  rw [mbxP, if_pos ha]
  rfl
theorem int_ne {c : Nat} (h : c ≠ 0) : ((c : Int) != 0) = true := by rw [bne_iff_ne]; omega
set_option maxRecDepth 100000 in
set_option maxHeartbeats 8000000 in
theorem mailbox_any (w1 w0 : World) (T : List Tk) (B : List Bx) (h : RdAt w1 w0 T B) :
    Calls Tryz.prog 149 #[.pointer (some ⟨w1.heap.size, 0, none⟩)] w0 (RsP w1 T.length (mbxP (cutL T) B)) := by
  obtain ⟨a, n, cap, _, _, hn, hr, c0, _, f0, _, _⟩ := h.cells
  have hlt := h.lt
  obtain ⟨p, r, hp⟩ : ∃ p r, cutL T = p :: r := by
    cases hq : cutL T with
    | nil => exact absurd hq (cut_ne T)
    | cons p r => exact ⟨p, r, rfl⟩
  have hnl : n ≤ 100000 := by rw [hn]; exact len_le h.cost
  have hwn : wordsN T ≤ n := by rw [hn]; exact words_le T
  have hbw := words_cut 60 (by decide) hp
  have hag : (sgB p.s 60 && plain p.l) = angle p := rfl
  rw [hag] at hbw
  have HH := Lib.hid h
  have hrw := hr.below h.below
  have HCW := Lib.hid (countWords_any (.slice a n cap) T w0 hrw (by omega))
  obtain ⟨a1, m1, d1, hm1, hs1, hr1⟩ := from_any w1 hr (wordsN T) hwn
  have HBG := Lib.hid (begins_any (.slice a1 m1 d1) (T.drop (wordsN T)) 60 w0 ((hr1 w1 hr).below h.below) (by rw [List.length_drop]; omega))
  rw [hbw] at HBG
  have HP := Lib.hid hp
  cases hang : angle p
  · obtain ⟨g1, g2, g3, g4⟩ := seg_cut hp
    have HA := Lib.hid (address_any w1 w0 T B ⟨#[]⟩ h)
    rw [g2] at HA
    have HG := Lib.hid g3
    have HM := Lib.hid (mbx_plain (r := r) (B := B) hang)
    rw [hang] at HBG
    rw [HP.out]
    generalize wordsN T = k at *
    clear hr hrw hn hm1 hr1 g1 g2 g3 g4 hp hbw hag hang h
    go_enter Tryz.func149, Tryz.ntmps149
    go_wp2_with fail
    refine HCW.out.mono ?_
    rintro e w2 ⟨rfl, rfl⟩
    go_wp2_with fail
    refine HBG.out.mono ?_
    rintro e w2 ⟨rfl, rfl⟩
    go_wp2_with fail
    refine HA.out.mono ?_
    rintro e w3 ⟨rfl, hb, hy⟩
    have HY := Lib.hid (And.intro hb hy)
    clear hb hy
    go_wp2_with fail
    go_ret
    rw [HM.out]
    by_cases h0 : (adrP [] p.l B).1 = 0
    · rw [if_pos h0]
      have e0 : (adrP (bl ⟨#[]⟩) p.l B).1 = 0 := h0
      have := HY.out.2 e0
      refine ⟨by rw [show (adrP (bl ⟨#[]⟩) p.l B).1 = 0 from h0]; rfl, HY.out.1, fun _ => ⟨_, drop_le T _, HG.out, this⟩⟩
    · rw [if_neg h0]
      exact ⟨rfl, HY.out.1, fun h => absurd h h0⟩
  · have hs0 : bl p.s ≠ [] := by
      have : sgB p.s 60 = true := by
        rw [← hag, Bool.and_eq_true] at hang
        exact hang.1
      exact sg_ne this
    obtain ⟨g1, g2, g3, g4⟩ := words_take hp (angle_plain hang) hs0
    obtain ⟨q, r1, hq⟩ : ∃ q r1, r = q :: r1 := by
      cases hq : r with
      | nil => rw [hq] at g3; exact absurd g3 (cut_ne _)
      | cons q r1 => exact ⟨q, r1, rfl⟩
    subst hq
    obtain ⟨a2, m2, d2, hm2, hs2, hr2⟩ := to_any w1 hr (wordsN T) hwn
    obtain ⟨a3, m3, d3, hm3, hs3, hr3⟩ := from_any w1 hr (wordsN T + 1) (by omega)
    have HJ := Lib.hid (joinW_any (.slice a2 m2 d2) (T.take (wordsN T)) w0 ((hr2 w1 hr).below h.below) (Nat.le_trans (costT_le T _) (Nat.le_trans h.cost (by decide))))
    rw [g2] at HJ
    have HR3 := Lib.hid (hr3 w1 hr)
    obtain ⟨g5, g6, g7, g8⟩ := seg_cut g3
    have HG7 := Lib.hid g7
    have HG6 := Lib.hid g6
    have HM := Lib.hid (mbx_angle (r := r1) (B := B) (q := q) hang)
    have hsg := beg_take (c := 62) (by decide) g7
    have htk : takeP 62 (⟨[], q.s⟩ :: r1) = if sgB q.s 62 = true then some r1 else none := rfl
    rw [htk] at hsg
    have HSG := Lib.hid hsg
    rw [hang] at HBG
    rw [HP.out, HM.out]
    have HC := Lib.hid (fun W (hW : Below w0.heap.size w0 W) => old_cell c0 hlt hW)
    have HF := Lib.hid (fun W (hW : Below w0.heap.size w0 W) => old_frozen f0 hlt hW)
    have HADR : Hid (∀ W, RdAt w1 W (T.drop (wordsN T + 1)) B → Calls Tryz.prog 162 #[.pointer (some ⟨w1.heap.size, 0, none⟩), .string (ba (nameL p.l))] W (AdrR w1 (adrP (nameL p.l) q.l B) ((T.drop (wordsN T + 1)).drop (segN (T.drop (wordsN T + 1)))))) := Lib.hid (fun W hW => by
      have := address_any w1 W _ B (ba (nameL p.l)) hW
      rw [bl_ba, g6] at this
      exact this)
    have HL2 : Hid ((((T.drop (wordsN T + 1)).drop (segN (T.drop (wordsN T + 1)))).drop 1).length ≤ T.length) := Lib.hid (Nat.le_trans (drop_le _ _) (Nat.le_trans (drop_le _ _) (drop_le _ _)))
    generalize (T.drop (wordsN T + 1)).drop (segN (T.drop (wordsN T + 1))) = T2 at *
    obtain ⟨k, hk⟩ : ∃ k, k = wordsN T := ⟨_, rfl⟩
    rw [← hk] at hs1 hs2 hs3 HR3 HCW hwn HADR
    rw [show ((k + 1 : Nat) : Int) = (k : Int) + 1 by omega] at hs3
    generalize ba (nameL p.l) = nm at *
    generalize adrP (nameL p.l) q.l B = R at *
    clear hr hrw hn hm1 hr1 hm2 hr2 hm3 hr3 g1 g2 g3 g4 g5 g6 g7 g8 hp hbw hag hang h hs0 hsg htk hk
    by_cases h0 : R.1 = 0
    · have hq0 : ((R.1 : Int) != 0) = false := by rw [h0]; rfl
      cases hgt : sgB q.s 62
      · have HZ : Hid (begB 62 T2 = false) := Lib.hid (by rw [HSG.out.1, hgt]; rfl)
        rw [if_pos h0, if_neg (by decide)]
        clear hgt
        go_enter Tryz.func149, Tryz.ntmps149
        go_wp2_with fail
        refine HCW.out.mono ?_
        rintro e w2 ⟨rfl, rfl⟩
        go_wp2_with fail
        refine HBG.out.mono ?_
        rintro e w2 ⟨rfl, rfl⟩
        go_wp2_with fail
        refine HJ.out.mono ?_
        rintro e w2 ⟨rfl, hb⟩
        have HB2 := Lib.hid hb
        have x0 := HC.out _ hb
        have x1 := HF.out _ hb
        clear hb
        go_wp2_with fail
        refine (HADR.out _ (((HH.out.on HB2.out).drop (k + 1) HR3.out))).mono ?_
        rintro e w4 ⟨rfl, hb4, hy4⟩
        have HT := Lib.hid (take_any w1 w4 T2 R.2 62 (hy4 h0))
        rw [HZ.out] at HT
        clear hb4 hy4
        go_wp2_with fail
        refine HT.out.mono ?_
        rintro e w5 ⟨rfl, h5⟩
        have HX := Lib.hid h5.below
        clear h5
        go_wp2_with fail
        go_ret
        exact RsP.no rfl (by decide) HX.out
      · have HZ : Hid (begB 62 T2 = true) := Lib.hid (by rw [HSG.out.1, hgt]; rfl)
        have HW : Hid (cutL (T2.drop 1) = r1) := Lib.hid (by
          have := HSG.out.2 HZ.out
          rw [hgt, if_pos rfl] at this
          exact (Option.some.inj this).symm)
        rw [if_pos h0, if_pos rfl]
        clear hgt
        go_enter Tryz.func149, Tryz.ntmps149
        go_wp2_with fail
        refine HCW.out.mono ?_
        rintro e w2 ⟨rfl, rfl⟩
        go_wp2_with fail
        refine HBG.out.mono ?_
        rintro e w2 ⟨rfl, rfl⟩
        go_wp2_with fail
        refine HJ.out.mono ?_
        rintro e w2 ⟨rfl, hb⟩
        have HB2 := Lib.hid hb
        have x0 := HC.out _ hb
        have x1 := HF.out _ hb
        clear hb
        go_wp2_with fail
        refine (HADR.out _ (((HH.out.on HB2.out).drop (k + 1) HR3.out))).mono ?_
        rintro e w4 ⟨rfl, hb4, hy4⟩
        have HT := Lib.hid (take_any w1 w4 T2 R.2 62 (hy4 h0))
        rw [HZ.out, if_pos rfl] at HT
        clear hb4 hy4
        go_wp2_with fail
        refine HT.out.mono ?_
        rintro e w5 ⟨rfl, h5⟩
        have HX := Lib.hid h5
        clear h5
        go_wp2_with fail
        go_ret
        exact RsP.yes rfl HL2.out HW.out HX.out
    · have hq0 := int_ne h0
      rw [if_neg h0]
      go_enter Tryz.func149, Tryz.ntmps149
      go_wp2_with fail
      refine HCW.out.mono ?_
      rintro e w2 ⟨rfl, rfl⟩
      go_wp2_with fail
      refine HBG.out.mono ?_
      rintro e w2 ⟨rfl, rfl⟩
      go_wp2_with fail
      refine HJ.out.mono ?_
      rintro e w2 ⟨rfl, hb⟩
      have HB2 := Lib.hid hb
      have x0 := HC.out _ hb
      have x1 := HF.out _ hb
      clear hb
      go_wp2_with fail
      refine (HADR.out _ (((HH.out.on HB2.out).drop (k + 1) HR3.out))).mono ?_
      rintro e w4 ⟨rfl, hb4, hy4⟩
      have HX := Lib.hid hb4
      clear hb4 hy4
      go_wp2_with fail
      go_ret
      exact RsP.no rfl h0 HX.out

/-! What is left, told by the memory. -/
def restN (b : Nat) (w : World) : Nat := match w.cell? ⟨b, 0, none⟩ with
  | some (.slice _ n _) => n
  | _ => 0
theorem RdAt.restN {w1 wr : World} {T : List Tk} {B : List Bx} (h : RdAt w1 wr T B) : Mbx.restN w1.heap.size wr = T.length := by
  obtain ⟨a, n, cap, _, _, hn, hr, c0, _⟩ := h.cells
  unfold Mbx.restN
  rw [c0]
  exact hn
theorem beg_len {c : UInt8} {T : List Tk} (h : begB c T = true) : (T.drop 1).length < T.length := by
  cases T with
  | nil => cases h
  | cons t T => simp
theorem grp_step {m : Nat} {ps : List Pc} {B : List Bx} : grp (m + 1) ps B = if (mbxP ps B).1 = 0 then (match takeP 59 (mbxP ps B).2.1 with
      | some r => (0, r, (mbxP ps B).2.2)
      | none => match takeP 44 (mbxP ps B).2.1 with
        | some r => grp m r (mbxP ps B).2.2
        | none => no 130) else no (mbxP ps B).1 := rfl
theorem take_len {c : UInt8} {ps r : List Pc} (h : takeP c ps = some r) : r.length < ps.length := by
  obtain ⟨u, rfl, _⟩ := take_some h
  simp
theorem mbx_len {ps : List Pc} {B : List Bx} (h : (mbxP ps B).1 = 0) : (mbxP ps B).2.1.length ≤ ps.length := by
  cases ps with
  | nil => cases h
  | cons p r =>
    rw [mbxP] at h ⊢
    split at h
    · rename_i h1
      rw [if_pos h1]
      cases r with
      | nil => cases h
      | cons q r1 =>
        rw [angP] at h ⊢
        split at h
        · rename_i h2
          rw [if_pos h2]
          split at h
          · rename_i h3
            rw [if_pos h3]
            simp only [List.length_cons]
            omega
          · cases h
        · rename_i h2
          exact absurd h h2
    · rename_i h1
      rw [if_neg h1]
      split at h
      · rename_i h2
        rw [if_pos h2]
        simp
      · rename_i h2
        exact absurd h h2
set_option maxRecDepth 100000 in
set_option maxHeartbeats 8000000 in
theorem group_any (w1 w0 : World) (T : List Tk) (B : List Bx) (N : Nat) (h : RdAt w1 w0 T B) (hN : (cutL T).length ≤ N) :
    Calls Tryz.prog 150 #[.pointer (some ⟨w1.heap.size, 0, none⟩)] w0 (RsP w1 T.length (grp0 N (cutL T) B)) := by
  obtain ⟨hb1, hb2⟩ := beg_take (c := 59) (by decide) (rfl : cutL T = cutL T)
  have HT0 := Lib.hid (take_any w1 w0 T B 59 h)
  unfold grp0
  cases hbg : begB 59 T
  · have htk : takeP 59 (cutL T) = none := by
      rw [hbg] at hb1
      cases hq : takeP 59 (cutL T) with
      | none => rfl
      | some r => rw [hq] at hb1; cases hb1
    rw [htk]
    rw [hbg, if_neg (by decide)] at HT0
    have HN := Lib.hid hN
    clear hb1 hb2 hbg htk h hN
    go_enter Tryz.func150, Tryz.ntmps150
    go_wp2_with fail
    refine HT0.out.mono ?_
    rintro e w2 ⟨rfl, h2⟩
    have H2 := Lib.hid h2
    clear h2
    go_wp2_with fail
    go_loopw [3] (fun _ wr => ∃ (m : Nat) (T' : List Tk) (B' : List Bx), Hid (RdAt w1 wr T' B') ∧ Hid ((cutL T').length ≤ m) ∧ Hid (T'.length ≤ T.length) ∧ Hid (grp m (cutL T') B' = grp N (cutL T) B)) (fun _ wr => Mbx.restN w1.heap.size wr)
    case atStart => exact ⟨N, T, B, H2, HN, Lib.hid (Nat.le_refl _), Lib.hid rfl⟩
    case round =>
      obtain ⟨m, T', B', hR, hm, hl, hg⟩ := hrel
      have HRN := Lib.hid hR.out.restN
      obtain ⟨m', rfl⟩ : ∃ m', m = m' + 1 := by
        cases m with
        | zero =>
          have := hm.out
          have h0 := List.length_eq_zero_iff.1 (Nat.le_zero.1 this)
          exact absurd h0 (cut_ne T')
        | succ m' => exact ⟨m', rfl⟩
      have HM := Lib.hid (mailbox_any w1 wr T' B' hR.out)
      have hst := hg.out
      rw [grp_step] at hst
      have HML := Lib.hid (fun h => mbx_len (ps := cutL T') (B := B') h)
      generalize mbxP (cutL T') B' = M at *
      by_cases h0 : M.1 = 0
      · rw [if_pos h0] at hst
        have hq0 : ((M.1 : Int) != 0) = false := by rw [h0]; rfl
        have HST := Lib.hid hst
        have HM0 := Lib.hid h0
        clear hst h0 hg
        go_wp2_with fail
        refine HM.out.mono ?_
        rintro e w3 ⟨rfl, hb3, h3⟩
        obtain ⟨T2, hl2, hc2, hr2⟩ := h3 HM0.out
        obtain ⟨e1, e2⟩ := beg_take (c := 59) (by decide) hc2
        obtain ⟨e3, e4⟩ := beg_take (c := 44) (by decide) hc2
        have HT1 := Lib.hid (take_any w1 w3 T2 M.2.2 59 hr2)
        have HL2 := Lib.hid hl2
        have HC2 := Lib.hid hc2
        clear hb3 h3 hr2 hl2 hc2
        cases hs : begB 59 T2
        · have hn59 : takeP 59 M.2.1 = none := by
            rw [hs] at e1
            cases hq : takeP 59 M.2.1 with
            | none => rfl
            | some r => rw [hq] at e1; cases e1
          rw [hn59] at HST
          rw [hs, if_neg (by decide)] at HT1
          clear e1 e2 hs hn59
          cases hs : begB 44 T2
          · have hn44 : takeP 44 M.2.1 = none := by
              rw [hs] at e3
              cases hq : takeP 44 M.2.1 with
              | none => rfl
              | some r => rw [hq] at e3; cases e3
            rw [hn44] at HST
            have HS := Lib.hid hs
            clear e3 e4 hs hn44
            go_wp2_with fail
            refine HT1.out.mono ?_
            rintro e w4 ⟨rfl, h4⟩
            have HT2 := Lib.hid (take_any w1 w4 T2 M.2.2 44 h4)
            rw [HS.out, if_neg (by decide)] at HT2
            clear h4
            go_wp2_with fail
            refine HT2.out.mono ?_
            rintro e w5 ⟨rfl, h5⟩
            have H5 := Lib.hid h5
            clear h5
            go_wp2_with fail
            go_ret
            rw [← HST.out]
            exact RsP.no rfl (by decide) H5.out.below
          · have hn44 := e4 hs
            rw [hn44] at HST
            have HTL := Lib.hid (take_len hn44)
            have HS := Lib.hid hs
            clear e3 e4 hs hn44
            go_wp2_with fail
            refine HT1.out.mono ?_
            rintro e w4 ⟨rfl, h4⟩
            have HT2 := Lib.hid (take_any w1 w4 T2 M.2.2 44 h4)
            rw [HS.out, if_pos rfl] at HT2
            clear h4
            go_wp2_with fail
            refine HT2.out.mono ?_
            rintro e w5 ⟨rfl, h5⟩
            have H5 := Lib.hid h5
            clear h5
            go_wp2_with fail
            go_roundw
            case rel => exact ⟨m', T2.drop 1, M.2.2, H5, Lib.hid (by have h1 := HTL.out; have h2 := HML.out HM0.out; have h3 := hm.out; omega), Lib.hid (Nat.le_trans (drop_le _ _) (Nat.le_trans HL2.out hl.out)), HST⟩
            case measure =>
              rw [HRN.out, H5.out.restN]
              have h1 := beg_len HS.out
              have h2 := HL2.out
              omega
        · have hs59 := e2 hs
          rw [hs59] at HST
          rw [hs, if_pos rfl] at HT1
          clear e1 e2 e3 e4 hs hs59
          go_wp2_with fail
          refine HT1.out.mono ?_
          rintro e w4 ⟨rfl, h4⟩
          have H4 := Lib.hid h4
          clear h4
          go_wp2_with fail
          go_ret
          rw [← HST.out]
          exact RsP.yes rfl (Nat.le_trans (drop_le _ _) (Nat.le_trans HL2.out hl.out)) rfl H4.out
      · rw [if_neg h0] at hst
        have hq0 := int_ne h0
        have HST := Lib.hid hst
        clear hst hg
        go_wp2_with fail
        refine HM.out.mono ?_
        rintro e w3 ⟨rfl, hb3, _⟩
        have HX := Lib.hid hb3
        clear hb3
        go_wp2_with fail
        go_ret
        rw [← HST.out]
        exact RsP.no rfl h0 HX.out
  · have htk := hb2 hbg
    rw [htk]
    rw [hbg, if_pos rfl] at HT0
    clear hb1 hb2 hbg htk h hN
    go_enter Tryz.func150, Tryz.ntmps150
    go_wp2_with fail
    refine HT0.out.mono ?_
    rintro e w2 ⟨rfl, h2⟩
    have H2 := Lib.hid h2
    clear h2
    go_wp2_with fail
    go_ret
    exact RsP.yes rfl (drop_le _ _) rfl H2.out
end Go.Proofs.YtegbkfloiiilfaaGreatDoor.Mbx

/-
  Walks: part, list, Read, One.
-/
namespace Go.Proofs.YtegbkfloiiilfaaGreatDoor.Mbx
open Go Go.RowKit
open Go.Proofs.YtegbkfloiiilfaaGreatDoor.Lex
open Go.Proofs.YtegbkfloiiilfaaGreatDoor.Addr (results_ad2)

theorem begS {T : List Tk} {p : Pc} {r : List Pc} (h : cutL T = p :: r) : colon p = (!(wordsN T == 0) && begB 58 (T.drop (wordsN T))) := by
  rw [words_cut 58 (by decide) h]
  unfold colon
  cases hs : sgB p.s 58
  · simp
  · cases hp : plain p.l
    · simp
    · have := words_zero h hp (sg_ne hs)
      simp only [Bool.true_and, Bool.and_true]
      congr 1
      rw [Bool.eq_iff_iff, List.isEmpty_iff, beq_iff_eq]
      exact this.symm
set_option maxRecDepth 100000 in
set_option maxHeartbeats 8000000 in
theorem part_any (w1 w0 : World) (T : List Tk) (B : List Bx) (N : Nat) (h : RdAt w1 w0 T B) (hN : (cutL T).length ≤ N + 1) :
    Calls Tryz.prog 133 #[.pointer (some ⟨w1.heap.size, 0, none⟩)] w0 (RsP w1 T.length (prt N (cutL T) B)) := by
  obtain ⟨a, n, cap, _, _, hn, hr, c0, _, f0, _, _⟩ := h.cells
  obtain ⟨p, r, hp⟩ : ∃ p r, cutL T = p :: r := by
    cases hq : cutL T with
    | nil => exact absurd hq (cut_ne T)
    | cons p r => exact ⟨p, r, rfl⟩
  have hnl : n ≤ 100000 := by rw [hn]; exact len_le h.cost
  have hwn : wordsN T ≤ n := by rw [hn]; exact words_le T
  have hcol := begS hp
  have HH := Lib.hid h
  have HCW := Lib.hid (countWords_any (.slice a n cap) T w0 (hr.below h.below) (by omega))
  have HP := Lib.hid hp
  have hprt : prt N (cutL T) B = if colon p = true then grp0 N r B else mbxP (cutL T) B := by rw [hp]; rfl
  rw [hprt]
  have HM := Lib.hid (mailbox_any w1 w0 T B h)
  by_cases hz : wordsN T = 0
  · have hc : colon p = false := by rw [hcol, hz]; rfl
    rw [hc, if_neg (by decide)]
    have hq0 : ((wordsN T : Int) == 0) = true := by rw [hz]; rfl
    generalize wordsN T = k at *
    clear h hr hn hp hcol hprt hc hz hwn
    go_enter Tryz.func133, Tryz.ntmps133
    go_wp2_with fail
    refine HCW.out.mono ?_
    rintro e w2 ⟨rfl, rfl⟩
    go_wp2_with fail
    refine HM.out.mono ?_
    rintro e w3 ⟨rfl, h3⟩
    have H3 := Lib.hid h3
    clear h3
    go_wp2_with fail
    go_ret
    exact ⟨rfl, H3.out⟩
  · have hq0 : ((wordsN T : Int) == 0) = false := by rw [beq_eq_false_iff_ne]; omega
    obtain ⟨a1, m1, d1, hm1, hs1, hr1⟩ := from_any w1 hr (wordsN T) hwn
    have HBG := Lib.hid (begins_any (.slice a1 m1 d1) (T.drop (wordsN T)) 58 w0 ((hr1 w1 hr).below h.below) (by rw [List.length_drop]; omega))
    have hcb : colon p = begB 58 (T.drop (wordsN T)) := by
      rw [hcol]
      have : (wordsN T == 0) = false := by rw [beq_eq_false_iff_ne]; exact hz
      rw [this]
      rfl
    rw [← hcb] at HBG
    cases hc : colon p
    · rw [hc] at HBG
      rw [if_neg (by decide)]
      generalize wordsN T = k at *
      clear h hr hn hp hcol hprt hc hz hwn hcb hr1 hm1
      go_enter Tryz.func133, Tryz.ntmps133
      go_wp2_with fail
      refine HCW.out.mono ?_
      rintro e w2 ⟨rfl, rfl⟩
      go_wp2_with fail
      refine HBG.out.mono ?_
      rintro e w2 ⟨rfl, rfl⟩
      go_wp2_with fail
      refine HM.out.mono ?_
      rintro e w3 ⟨rfl, h3⟩
      have H3 := Lib.hid h3
      clear h3
      go_wp2_with fail
      go_ret
      exact ⟨rfl, H3.out⟩
    · rw [hc] at HBG
      rw [if_pos rfl]
      have hcc := hc
      unfold colon at hcc
      simp only [Bool.and_eq_true] at hcc
      obtain ⟨g1, g2, g3, g4⟩ := words_take hp hcc.2.1 (sg_ne hcc.1)
      obtain ⟨a3, m3, d3, hm3, hs3, hr3⟩ := from_any w1 hr (wordsN T + 1) (by omega)
      have HR3 := Lib.hid (hr3 w1 hr)
      have HL := Lib.hid (drop_le T (wordsN T + 1))
      have HG : Hid (∀ W, RdAt w1 W (T.drop (wordsN T + 1)) B → Calls Tryz.prog 150 #[.pointer (some ⟨w1.heap.size, 0, none⟩)] W (RsP w1 (T.drop (wordsN T + 1)).length (grp0 N r B))) := Lib.hid (fun W hW => by
        have := group_any w1 W _ B N hW (by rw [g3]; rw [hp] at hN; simp at hN; omega)
        rw [g3] at this
        exact this)
      obtain ⟨k, hk⟩ : ∃ k, k = wordsN T := ⟨_, rfl⟩
      rw [← hk] at hs1 hs3 HR3 HCW hwn HG HL hq0
      rw [show ((k + 1 : Nat) : Int) = (k : Int) + 1 by omega] at hs3
      clear h hr hn hp hcol hprt hc hz hcb hr1 hm1 hr3 hm3 hcc g1 g2 g3 g4 hk hN
      go_enter Tryz.func133, Tryz.ntmps133
      go_wp2_with fail
      refine HCW.out.mono ?_
      rintro e w2 ⟨rfl, rfl⟩
      go_wp2_with fail
      refine HBG.out.mono ?_
      rintro e w2 ⟨rfl, rfl⟩
      go_wp2_with fail
      refine (HG.out _ (HH.out.drop (k + 1) HR3.out)).mono ?_
      rintro e w3 ⟨rfl, hb3, h3⟩
      have H3 := Lib.hid (And.intro hb3 h3)
      clear hb3 h3
      go_wp2_with fail
      go_ret
      refine ⟨rfl, H3.out.1, fun h0 => ?_⟩
      obtain ⟨T', e1, e2⟩ := H3.out.2 h0
      exact ⟨T', Nat.le_trans e1 HL.out, e2⟩

/-- What the list tells: a code, and the boxes. -/
def LiP (w1 : World) (R : Nat × List Bx) (e : Ending) (w' : World) : Prop := e = .returned (.int .i64 R.1) ∧ Below w1.heap.size w1 w' ∧ (R.1 = 0 → ∃ T', RdAt w1 w' T' R.2)
theorem LiP.no {w1 w' : World} {R : Nat × List Bx} {c : Nat} (h : R = (c, [])) (hc : c ≠ 0) (hb : Below w1.heap.size w1 w') : LiP w1 R (.returned (.int .i64 c)) w' := by
  subst h
  exact ⟨rfl, hb, fun h => absurd h hc⟩
theorem LiP.yes {w1 w' : World} {R : Nat × List Bx} {T : List Tk} {B : List Bx} (h : R = (0, B)) (hb : RdAt w1 w' T B) : LiP w1 R (.returned (.int .i64 0)) w' := by
  subst h
  exact ⟨rfl, hb.below, fun _ => ⟨T, hb⟩⟩
theorem lst_step {m : Nat} {ps : List Pc} {B : List Bx} : lst (m + 1) ps B = if (prt m ps B).1 = 0 then (if doneP (prt m ps B).2.1 = true then (0, (prt m ps B).2.2) else match takeP 44 (prt m ps B).2.1 with
    | some r => lst m r (prt m ps B).2.2
    | none => (130, []))
  else ((prt m ps B).1, []) := rfl
theorem grp_len : ∀ (n : Nat) (ps : List Pc) (B : List Bx), (grp n ps B).1 = 0 → (grp n ps B).2.1.length ≤ ps.length
  | 0, _, _, h => by cases h
  | n + 1, ps, B, h => by
    rw [grp_step] at h ⊢
    split at h
    · rename_i h1
      rw [if_pos h1]
      have hm := mbx_len h1
      cases h2 : takeP 59 (mbxP ps B).2.1 with
      | some r =>
        have := take_len h2
        simp only
        omega
      | none =>
        rw [h2] at h
        cases h3 : takeP 44 (mbxP ps B).2.1 with
        | some r =>
          rw [h3] at h
          have h4 := take_len h3
          have h5 := grp_len n r _ h
          simp only at *
          omega
        | none => rw [h3] at h; cases h
    · rename_i h1
      exact absurd h h1
theorem prt_len {n : Nat} {ps : List Pc} {B : List Bx} (h : (prt n ps B).1 = 0) : (prt n ps B).2.1.length ≤ ps.length := by
  cases ps with
  | nil => cases h
  | cons p r =>
    rw [prt] at h ⊢
    split at h
    · rename_i h1
      rw [if_pos h1]
      unfold grp0 at h ⊢
      cases h2 : takeP 59 r with
      | some r' =>
        have := take_len h2
        simp only [List.length_cons]
        omega
      | none =>
        rw [h2] at h
        have := grp_len n r B h
        simp only [List.length_cons] at *
        omega
    · rename_i h1
      rw [if_neg h1]
      exact mbx_len h
set_option maxRecDepth 100000 in
set_option maxHeartbeats 8000000 in
theorem list_any (w1 w0 : World) (T : List Tk) (B : List Bx) (N : Nat) (h : RdAt w1 w0 T B) (hN : (cutL T).length ≤ N) :
    Calls Tryz.prog 102 #[.pointer (some ⟨w1.heap.size, 0, none⟩)] w0 (LiP w1 (lst N (cutL T) B)) := by
  have H2 := Lib.hid h
  have HN := Lib.hid hN
  clear h hN
  go_enter Tryz.func102, Tryz.ntmps102
  go_wp2_with fail
  go_loopw [3] (fun _ wr => ∃ (m : Nat) (T' : List Tk) (B' : List Bx), Hid (RdAt w1 wr T' B') ∧ Hid ((cutL T').length ≤ m) ∧ Hid (lst m (cutL T') B' = lst N (cutL T) B)) (fun _ wr => Mbx.restN w1.heap.size wr)
  case atStart => exact ⟨N, T, B, H2, HN, Lib.hid rfl⟩
  case round =>
    obtain ⟨m, T', B', hR, hm, hg⟩ := hrel
    have HRN := Lib.hid hR.out.restN
    obtain ⟨m', rfl⟩ : ∃ m', m = m' + 1 := by
      cases m with
      | zero =>
        have := hm.out
        have h0 := List.length_eq_zero_iff.1 (Nat.le_zero.1 this)
        exact absurd h0 (cut_ne T')
      | succ m' => exact ⟨m', rfl⟩
    have HM := Lib.hid (part_any w1 wr T' B' m' hR.out hm.out)
    have hst := hg.out
    rw [lst_step] at hst
    have HML := Lib.hid (fun h => prt_len (n := m') (ps := cutL T') (B := B') h)
    generalize prt m' (cutL T') B' = M at *
    by_cases h0 : M.1 = 0
    · rw [if_pos h0] at hst
      have hq0 : ((M.1 : Int) != 0) = false := by rw [h0]; rfl
      have HST := Lib.hid hst
      have HM0 := Lib.hid h0
      clear hst h0 hg
      go_wp2_with fail
      refine HM.out.mono ?_
      rintro e w3 ⟨rfl, hb3, h3⟩
      obtain ⟨T2, hl2, hc2, hr2⟩ := h3 HM0.out
      obtain ⟨e3, e4⟩ := beg_take (c := 44) (by decide) hc2
      obtain ⟨a, n, cap, _, _, hn, _, c0, _⟩ := hr2.cells
      have hdn : doneP M.2.1 = T2.isEmpty := by rw [← hc2]; exact done_cut T2
      have HR2 := Lib.hid hr2
      have HL2 := Lib.hid hl2
      clear hb3 h3 hr2 hl2 hc2
      by_cases hn0 : n = 0
      · have hd : doneP M.2.1 = true := by
          rw [hdn, List.isEmpty_iff, ← List.length_eq_zero_iff, ← hn]
          exact hn0
        rw [hd, if_pos rfl] at HST
        have hq1 : ((n : Int) == 0) = true := by rw [hn0]; rfl
        clear e3 e4 hdn hd hn hn0
        go_wp2_with fail
        go_ret
        rw [← HST.out]
        exact LiP.yes rfl HR2.out
      · have hd : doneP M.2.1 = false := by
          rw [hdn, ← Bool.not_eq_true, List.isEmpty_iff, ← List.length_eq_zero_iff, ← hn]
          exact hn0
        rw [hd, if_neg (by decide)] at HST
        have hq1 : ((n : Int) == 0) = false := by rw [beq_eq_false_iff_ne]; omega
        have HT1 := Lib.hid (take_any w1 w3 T2 M.2.2 44 HR2.out)
        clear hdn hd hn hn0
        cases hs : begB 44 T2
        · have hn44 : takeP 44 M.2.1 = none := by
            rw [hs] at e3
            cases hq : takeP 44 M.2.1 with
            | none => rfl
            | some r => rw [hq] at e3; cases e3
          rw [hn44] at HST
          rw [hs, if_neg (by decide)] at HT1
          clear e3 e4 hs hn44
          go_wp2_with fail
          refine HT1.out.mono ?_
          rintro e w4 ⟨rfl, h4⟩
          have H4 := Lib.hid h4
          clear h4
          go_wp2_with fail
          go_ret
          rw [← HST.out]
          exact LiP.no rfl (by decide) H4.out.below
        · have hn44 := e4 hs
          rw [hn44] at HST
          have HTL := Lib.hid (take_len hn44)
          rw [hs, if_pos rfl] at HT1
          have HS := Lib.hid hs
          clear e3 e4 hs hn44
          go_wp2_with fail
          refine HT1.out.mono ?_
          rintro e w4 ⟨rfl, h4⟩
          have H4 := Lib.hid h4
          clear h4
          go_wp2_with fail
          go_roundw
          case rel => exact ⟨m', T2.drop 1, M.2.2, H4, Lib.hid (by have h1 := HTL.out; have h2 := HML.out HM0.out; have h3 := hm.out; omega), HST⟩
          case measure =>
            rw [HRN.out, H4.out.restN]
            have h1 := beg_len HS.out
            have h2 := HL2.out
            omega
    · rw [if_neg h0] at hst
      have hq0 := int_ne h0
      have HST := Lib.hid hst
      clear hst hg
      go_wp2_with fail
      refine HM.out.mono ?_
      rintro e w3 ⟨rfl, hb3, _⟩
      have HX := Lib.hid hb3
      clear hb3
      go_wp2_with fail
      go_ret
      rw [← HST.out]
      exact LiP.no rfl h0 HX.out

/-! Read. -/
def ReadP (R : Nat × List Bx) (w : World) (e : Ending) (w' : World) : Prop := ∃ v, e = .returned (.tuple #[v, .int .i64 R.1]) ∧ ReadsB w' v R.2 ∧ Below w.heap.size w w'
theorem ReadP.of {R : Nat × List Bx} {w w' : World} {v : Value} {c : Nat} {B : List Bx} (h : R = (c, B)) (hv : ReadsB w' v B) (hb : Below w.heap.size w w') : ReadP R w (.returned (.tuple #[v, .int .i64 c])) w' :=
  ⟨v, by rw [h], by rw [h]; exact hv, hb⟩
theorem rd_new (w1 : World) (v : Value) (T : List Tk) (hv : ReadsT w1 v T) (hok : ∀ t ∈ T, Ok t) (hc : Lex.cost T ≤ 100000) : RdAt w1 (w1.alloc (.cells #[v, .slice none 0 0] rdT)) T [] := by
  obtain ⟨a, cap, rfl⟩ := hv.shape
  exact ⟨⟨a, cap, .slice none 0 0, Lies.new _ _ _, hv, World.ownsRow_nil _ _ _ _⟩, (Below.refl _ _).alloc (Nat.le_refl _) _, hok, hc, by simp⟩
set_option maxRecDepth 100000 in
set_option maxHeartbeats 4000000 in
theorem read_any (s : ByteArray) (w : World) (hs : s.size ≤ 50000) :
    Calls Tryz.prog 78 #[.string s] w (ReadP (readL (bl s)) w) := by
  have HS := Lib.hid (fun W => scan_any s W (by omega))
  by_cases h0 : (scan (bl s)).1 = 0
  · obtain ⟨T, hT⟩ : ∃ T, scan (bl s) = (0, T) := ⟨(scan (bl s)).2, by rw [← h0]⟩
    obtain ⟨h1, h2⟩ := scan_ok hT
    rw [bl_len] at h2
    have hrl : readL (bl s) = lst (cutL T).length (cutL T) [] := by
      unfold readL
      rw [hT, if_pos rfl]
      rfl
    rw [hrl]
    have HS2 : Hid (∀ W, Calls Tryz.prog 101 #[.string s] W fun e W' => ∃ va vn vc, e = .returned (.tuple #[.slice va vn vc, .int .i64 0]) ∧ ReadsT W' (.slice va vn vc) T ∧ Below W.heap.size W W') := Lib.hid fun W => (HS.out W).mono fun e W' he => by
      obtain ⟨v, he, hr, hb⟩ := he
      rw [hT] at he hr
      obtain ⟨va, vc, rfl⟩ := hr.shape
      exact ⟨va, _, vc, he, hr, hb⟩
    have HRN : Hid ((lst (cutL T).length (cutL T) []).1 ≠ 0 → (lst (cutL T).length (cutL T) []).2 = []) := Lib.hid (lst_none _ _ _)
    have HN := Lib.hid (fun w1 v (hv : ReadsT w1 v T) => rd_new w1 v T hv h1 (by omega))
    have HL := Lib.hid (fun w1 W (h : RdAt w1 W T []) => list_any w1 W T [] _ h (Nat.le_refl _))
    generalize lst (cutL T).length (cutL T) [] = R at *
    clear h0 hT HS h1 h2 hrl
    by_cases hr0 : R.1 = 0
    · have hq : ((R.1 : Int) != 0) = false := by rw [hr0]; rfl
      have HR0 := Lib.hid hr0
      clear hr0
      go_enter Tryz.func78, Tryz.ntmps78
      go_wp2_with fail
      refine (HS2.out _).mono ?_
      rintro e w1 ⟨va, vn, vc, rfl, hr, hb⟩
      have HV := Lib.hid (HN.out w1 _ hr)
      have HB := Lib.hid hb
      clear hb hr
      go_wp2_with fail
      refine (HL.out w1 _ HV.out).mono ?_
      rintro e w2 ⟨rfl, hb2, h3⟩
      obtain ⟨T', h4⟩ := h3 HR0.out
      obtain ⟨_, _, _, ba0, bc0, _, _, _, c1, _, _, ho⟩ := h4.cells
      have HX : Hid (ReadsB w2 (.slice ba0 R.2.length bc0) R.2 ∧ Below w.heap.size w w2) := Lib.hid ⟨owns_readsB ho, HB.out.trans (hb2.mono HB.out.size)⟩
      clear hb2 h3 h4 ho
      go_wp2_with fail
      go_ret2
      exact ReadP.of (Prod.ext HR0.out rfl) HX.out.1 HX.out.2
    · have hq := int_ne hr0
      have HR0 := Lib.hid hr0
      clear hr0
      go_enter Tryz.func78, Tryz.ntmps78
      go_wp2_with fail
      refine (HS2.out _).mono ?_
      rintro e w1 ⟨va, vn, vc, rfl, hr, hb⟩
      have HV := Lib.hid (HN.out w1 _ hr)
      have HB := Lib.hid hb
      clear hb hr
      go_wp2_with fail
      refine (HL.out w1 _ HV.out).mono ?_
      rintro e w2 ⟨rfl, hb2, _⟩
      have HX := Lib.hid (HB.out.trans (hb2.mono HB.out.size))
      clear hb2
      go_wp2_with fail
      go_ret2
      exact ReadP.of (B := []) (Prod.ext rfl (HRN.out HR0.out)) (nil_readsB _) HX.out
  · have hX : readL (bl s) = ((scan (bl s)).1, []) := by
      unfold readL
      rw [if_neg h0]
    have HX := Lib.hid hX
    have hne := int_ne h0
    generalize hsc : scan (bl s) = R at *
    have HS2 : Hid (∀ W, Calls Tryz.prog 101 #[.string s] W fun e W' => ∃ v, e = .returned (.tuple #[v, .int .i64 R.1]) ∧ Below W.heap.size W W') := Lib.hid fun W => (HS.out W).mono fun e W' he => by
      obtain ⟨v, he, hr, hb⟩ := he
      rw [hsc] at he
      exact ⟨v, he, hb⟩
    clear HS hsc h0 hX
    go_enter Tryz.func78, Tryz.ntmps78
    go_wp2_with fail
    refine (HS2.out _).mono ?_
    rintro e w1 ⟨v, rfl, hb⟩
    have HB := Lib.hid hb
    clear hb
    go_wp2_with fail
    go_ret2
    exact ReadP.of HX.out (nil_readsB _) HB.out

/-! A box as a result: three cells. -/
abbrev fill3 (W : World) (b : Nat) (x : Bx) : World := ((W.setCell ⟨b, 0, none⟩ (.string x.n)).setCell ⟨b, 1, none⟩ (.string x.l)).setCell ⟨b, 2, none⟩ (.string x.d)
structure Res3 (w : World) (b : Nat) (t : TypeId) (W : World) : Prop where
  lies : ∃ x : Bx, Lies W b #[.string x.n, .string x.l, .string x.d] t
  low : w.heap.size ≤ b
  below : Below w.heap.size w W
theorem Res3.start (w : World) (t : TypeId) (x : Bx) : Res3 w w.heap.size t (w.alloc (boxB t x)) := ⟨⟨x, Lies.new w _ _⟩, Nat.le_refl _, (Below.refl _ _).alloc (Nat.le_refl _) _⟩
theorem Res3.on {w W W' : World} {b : Nat} {t : TypeId} (h : Res3 w b t W) (hb : Below W.heap.size W W') : Res3 w b t W' := by
  obtain ⟨x, hx⟩ := h.lies
  exact ⟨⟨x, hx.same (hb.block _ hx.lt)⟩, h.low, h.below.trans (hb.mono h.below.size)⟩
theorem Res3.fill {w W : World} {b : Nat} {t : TypeId} (h : Res3 w b t W) (y : Bx) : Lies (fill3 W b y) b #[.string y.n, .string y.l, .string y.d] t ∧ Below w.heap.size w (fill3 W b y) := by
  obtain ⟨x, hx⟩ := h.lies
  refine ⟨?_, ((h.below.setCell (p := ⟨b, 0, none⟩) h.low _).setCell (p := ⟨b, 1, none⟩) h.low _).setCell (p := ⟨b, 2, none⟩) h.low _⟩
  exact ((hx.set 0 _).set 1 _).set 2 _
theorem Res3.cells {w W : World} {b : Nat} {t : TypeId} (h : Res3 w b t W) : ∃ x : Bx, W.cell? ⟨b, 0, none⟩ = some (.string x.n) ∧ W.cell? ⟨b, 1, none⟩ = some (.string x.l) ∧ W.cell? ⟨b, 2, none⟩ = some (.string x.d) ∧ W.frozen? ⟨b, 0, none⟩ = false ∧ W.frozen? ⟨b, 1, none⟩ = false ∧ W.frozen? ⟨b, 2, none⟩ = false := by
  obtain ⟨x, hx⟩ := h.lies
  exact ⟨x, hx.cell 0, hx.cell 1, hx.cell 2, hx.free 0, hx.free 1, hx.free 2⟩
/-- What One tells. -/
def OneP (R : Bx × Nat) (w : World) (e : Ending) (w' : World) : Prop := e = .returned (.tuple #[bxV R.1, .int .i64 R.2]) ∧ Below w.heap.size w w'
theorem OneP.of {R : Bx × Nat} {w w' : World} {b : Bx} {c : Nat} (h : R = (b, c)) (hb : Below w.heap.size w w') : OneP R w (.returned (.tuple #[bxV b, .int .i64 c])) w' := by
  subst h
  exact ⟨rfl, hb⟩
theorem one_bad {s : List UInt8} (h : (readL s).1 ≠ 0) : oneL s = (noBx, (readL s).1) := by unfold oneL; rw [if_neg h]
theorem one_good {s : List UInt8} {b : Bx} (h : readL s = (0, [b])) : oneL s = (b, 0) := by unfold oneL; rw [h]; rfl
theorem one_many {s : List UInt8} {B : List Bx} (h : readL s = (0, B)) (hB : B.length ≠ 1) : oneL s = (noBx, 130) := by
  unfold oneL
  rw [h, if_pos rfl]
  match B, hB with
  | [], _ => rfl
  | [b], hB => exact absurd rfl hB
  | b :: c :: r, _ => rfl
set_option maxRecDepth 100000 in
set_option maxHeartbeats 4000000 in
theorem one_any (s : ByteArray) (w : World) (hs : s.size ≤ 50000) :
    Calls Tryz.prog 46 #[.string s] w (OneP (oneL (bl s)) w) := by
  have HRD := Lib.hid (fun W => read_any s W hs)
  have HR0 := Lib.hid (Res3.start w bxT noBx)
  by_cases h0 : (readL (bl s)).1 = 0
  · obtain ⟨B, hB⟩ : ∃ B, readL (bl s) = (0, B) := ⟨(readL (bl s)).2, by rw [← h0]⟩
    have HR2 : Hid (∀ W, Calls Tryz.prog 78 #[.string s] W fun e W' => ∃ va vn vc, e = .returned (.tuple #[.slice va vn vc, .int .i64 0]) ∧ vn = B.length ∧ ReadsB W' (.slice va vn vc) B ∧ Below W.heap.size W W') := Lib.hid fun W => (HRD.out W).mono fun e W' he => by
      obtain ⟨v, he, hr, hb⟩ := he
      rw [hB] at he hr
      obtain ⟨va, vc, rfl⟩ := hr.shape
      exact ⟨va, _, vc, he, rfl, hr, hb⟩
    by_cases h1 : B.length = 1
    · obtain ⟨b, rfl⟩ : ∃ b, B = [b] := List.length_eq_one_iff.1 h1
      have HX := Lib.hid (one_good hB)
      clear h0 hB HRD h1
      go_enter Tryz.func46, Tryz.ntmps46
      go_wp2_with fail
      refine (HR2.out _).mono ?_
      rintro e w1 ⟨va, vn, vc, rfl, hvn, hr, hb⟩
      obtain ⟨g, o, rfl, hg, hrow⟩ := hr.at_ 0 b rfl
      rw [Nat.zero_mul, Nat.add_zero] at hrow
      obtain ⟨d0, d1, d2⟩ := three hrow
      have HR1 := Lib.hid (HR0.out.on hb)
      obtain ⟨x, c0, c1, c2, f0, f1, f2⟩ := HR1.out.cells
      have hq : ((vn : Int) != 1) = false := by rw [hvn]; rfl
      have hv0 : 0 < vn := by rw [hvn]; simp
      clear hb hr hrow hvn
      go_wp2_with fail
      obtain ⟨hl2, hb2⟩ := HR1.out.fill b
      exact bodyPost_ret (v := .tuple #[bxV b, .int .i64 0]) (results_ad2 Tryz.results46 _ _ w.heap.size bxT _ (0, 0) _ rfl hl2 Tryz.underlying46 rfl sizeB) rfl (OneP.of HX.out hb2)
    · have HX := Lib.hid (one_many hB h1)
      clear h0 hB HRD
      go_enter Tryz.func46, Tryz.ntmps46
      go_wp2_with fail
      refine (HR2.out _).mono ?_
      rintro e w1 ⟨va, vn, vc, rfl, hvn, hr, hb⟩
      have HR1 := Lib.hid (HR0.out.on hb)
      obtain ⟨x, c0, c1, c2, f0, f1, f2⟩ := HR1.out.cells
      have hq : ((vn : Int) != 1) = true := by rw [bne_iff_ne, hvn]; omega
      clear hb hr hvn
      go_wp2_with fail
      obtain ⟨hl2, hb2⟩ := HR1.out.fill noBx
      exact bodyPost_ret (v := .tuple #[bxV noBx, .int .i64 130]) (results_ad2 Tryz.results46 _ _ w.heap.size bxT _ (0, 0) _ rfl hl2 Tryz.underlying46 rfl sizeB) rfl (OneP.of (c := 130) HX.out hb2)
  · have HX := Lib.hid (one_bad h0)
    have hne := int_ne h0
    generalize readL (bl s) = R at *
    have HR2 : Hid (∀ W, Calls Tryz.prog 78 #[.string s] W fun e W' => ∃ v, e = .returned (.tuple #[v, .int .i64 R.1]) ∧ Below W.heap.size W W') := Lib.hid fun W => (HRD.out W).mono fun e W' he => by
      obtain ⟨v, he, hr, hb⟩ := he
      exact ⟨v, he, hb⟩
    clear HRD h0
    go_enter Tryz.func46, Tryz.ntmps46
    go_wp2_with fail
    refine (HR2.out _).mono ?_
    rintro e w1 ⟨v, rfl, hb⟩
    have HR1 := Lib.hid (HR0.out.on hb)
    obtain ⟨x, c0, c1, c2, f0, f1, f2⟩ := HR1.out.cells
    clear hb
    go_wp2_with fail
    obtain ⟨hl2, hb2⟩ := HR1.out.fill noBx
    exact bodyPost_ret (v := .tuple #[bxV noBx, .int .i64 R.1]) (results_ad2 Tryz.results46 _ _ w.heap.size bxT _ (0, 0) _ rfl hl2 Tryz.underlying46 rfl sizeB) rfl (OneP.of HX.out hb2)
end Go.Proofs.YtegbkfloiiilfaaGreatDoor.Mbx
