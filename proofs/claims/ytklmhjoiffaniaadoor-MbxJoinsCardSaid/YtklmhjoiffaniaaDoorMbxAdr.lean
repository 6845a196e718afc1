/-
  The reader in memory; walks: take, address.
-/
import Derived.Test.YtklmhjoiffaniaaDoorMbxTok
namespace Go.Proofs.YtklmhjoiffaniaaDoor.Mbx
open Go Go.RowKit
open Go.Proofs.YtklmhjoiffaniaaDoor.Lex
open Go.Proofs.YtklmhjoiffaniaaDoor.Addr (Ad noAd ofL adT adB boxA cellsA new_boxA twoA AdPost of_any of_cases cost_drop)

abbrev rdT : TypeId := 54
/-- The reader, a struct of two cells behind all that lay in w1: the tokens that are left, and the boxes. -/
structure RdAt (w1 wr : World) (T : List Tk) (B : List Bx) : Prop where
  mem : ∃ a cap bv, Lies wr w1.heap.size #[.slice a T.length cap, bv] rdT ∧ ReadsT w1 (.slice a T.length cap) T ∧ wr.ownsRow (w1.heap.size + 1) bxT 3 bv B.length (B.flatMap bxC)
  below : Below w1.heap.size w1 wr
  ok : ∀ t ∈ T, Ok t
  cost : cost T ≤ 100000
  few : B.length ≤ 100
theorem len_le {T : List Tk} (h : cost T ≤ 100000) : T.length ≤ 100000 := Nat.le_trans (len_cost T) h
section
variable {w1 wr w' : World} {T T' : List Tk} {B : List Bx}
theorem RdAt.on (h : RdAt w1 wr T B) (hb : Below wr.heap.size wr w') : RdAt w1 w' T B := by
  obtain ⟨a, cap, bv, h1, h2, h3⟩ := h.mem
  exact ⟨⟨a, cap, bv, h1.same (hb.block _ h1.lt), h2, owns_below h3 hb⟩, h.below.trans (hb.mono h.below.size), h.ok, h.cost, h.few⟩
theorem RdAt.rest (h : RdAt w1 wr T B) {v : Value} (hr : ReadsT w1 v T') (hok : ∀ t ∈ T', Ok t) (hc : Lex.cost T' ≤ 100000) : RdAt w1 (wr.setCell ⟨w1.heap.size, 0, none⟩ v) T' B := by
  obtain ⟨a, cap, bv, h1, h2, h3⟩ := h.mem
  obtain ⟨a', c', rfl⟩ := hr.shape
  refine ⟨⟨a', c', bv, ?_, hr, ?_⟩, h.below.setCell (p := ⟨w1.heap.size, 0, none⟩) (Nat.le_refl _) _, hok, hc, h.few⟩
  · exact h1.set 0 _
  · refine Fr.owns (F := fun k => k = w1.heap.size) h3 (Fr.one wr _ 0 _) (fun k hk e => ?_)
    have := (h3.lt k hk).1
    omega
theorem RdAt.drop (h : RdAt w1 wr T B) {v : Value} (k : Nat) (hr : ReadsT w1 v (T.drop k)) : RdAt w1 (wr.setCell ⟨w1.heap.size, 0, none⟩ v) (T.drop k) B :=
  h.rest hr (fun t ht => h.ok t (List.mem_of_mem_drop ht)) (Nat.le_trans (cost_drop T k) h.cost)
end
/-- What the cells are. -/
theorem RdAt.cells {w1 wr : World} {T : List Tk} {B : List Bx} (h : RdAt w1 wr T B) : ∃ a n cap ba bc, n = T.length ∧ ReadsT w1 (.slice a n cap) T ∧ wr.cell? ⟨w1.heap.size, 0, none⟩ = some (.slice a n cap) ∧ wr.cell? ⟨w1.heap.size, 1, none⟩ = some (.slice ba B.length bc) ∧ wr.frozen? ⟨w1.heap.size, 0, none⟩ = false ∧ wr.frozen? ⟨w1.heap.size, 1, none⟩ = false ∧ wr.ownsRow (w1.heap.size + 1) bxT 3 (.slice ba B.length bc) B.length (B.flatMap bxC) := by
  obtain ⟨a, cap, bv, h1, h2, h3⟩ := h.mem
  have hsh : ∃ ba bc, bv = .slice ba B.length bc := by
    rcases h3.2 with ⟨rfl, h0⟩ | ⟨g, cap, cur, rfl, _⟩
    · exact ⟨_, _, by rw [h0]⟩
    · exact ⟨_, _, rfl⟩
  obtain ⟨ba, bc, rfl⟩ := hsh
  exact ⟨a, T.length, cap, ba, bc, rfl, h2, h1.cell 0, h1.cell 1, h1.free 0, h1.free 1, h3⟩

set_option maxRecDepth 100000 in
set_option maxHeartbeats 2000000 in
theorem take_any (w1 wr : World) (T : List Tk) (B : List Bx) (c : UInt8) (h : RdAt w1 wr T B) :
    Calls Tryd.prog 45 #[.pointer (some ⟨w1.heap.size, 0, none⟩), .string ⟨#[c]⟩] wr fun e w' => e = .returned (.bool (begB c T)) ∧ RdAt w1 w' (if begB c T = true then T.drop 1 else T) B := by
  obtain ⟨a, n, cap, _, _, hn, hr, c0, _, f0, _, _⟩ := h.cells
  have HB := Lib.hid (begins_any (.slice a n cap) T c wr (hr.below h.below) (Nat.le_trans (len_le h.cost) (by decide)))
  have HH := Lib.hid h
  cases hb : begB c T
  · rw [hb] at HB
    clear h hr hn
    go_enter Tryd.func45, Tryd.ntmps45
    go_wp2_with fail
    refine HB.out.mono ?_
    rintro e w2 ⟨rfl, rfl⟩
    go_wp2_with fail
    go_ret
    exact ⟨rfl, HH.out⟩
  · rw [hb] at HB
    have h1 : 1 ≤ n := by
      cases T with
      | nil => cases hb
      | cons t T => rw [hn]; simp
    obtain ⟨a', m, c', -, hsl, hrd⟩ := from_any w1 hr 1 h1
    have HR := Lib.hid (hrd w1 hr)
    rw [show ((1 : Nat) : Int) = 1 from rfl] at hsl
    clear h hr hn hrd
    go_enter Tryd.func45, Tryd.ntmps45
    go_wp2_with fail
    refine HB.out.mono ?_
    rintro e w2 ⟨rfl, rfl⟩
    go_wp2_with fail
    go_ret
    refine ⟨rfl, ?_⟩
    rw [← List.drop_one]
    exact HH.out.drop 1 HR.out

/-! An address, told with its name. -/
theorem RdAt.push {w1 W : World} {T T' : List Tk} {B : List Bx} {v bv : Value} (h : RdAt w1 W T B) (b : Bx) (hB : B.length < 100) {w4 : World} {n : Nat} (hn : n = B.length)
    (ho : w4.ownsRow (w1.heap.size + 1) bxT 3 bv (n + 1) ((B ++ [b]).flatMap bxC)) (hz : W.heap.size ≤ w4.heap.size) (hg : ∀ k, k < W.heap.size → k ≤ w1.heap.size → w4.heap[k]? = W.heap[k]?) (hw : w4.os = W.os ∧ w4.tape = W.tape ∧ w4.output = W.output)
    (hr : ReadsT w1 v T') (hok : ∀ t ∈ T', Ok t) (hc : Lex.cost T' ≤ 100000) :
    RdAt w1 ((w4.setCell ⟨w1.heap.size, 1, none⟩ bv).setCell ⟨w1.heap.size, 0, none⟩ v) T' (B ++ [b]) := by
  obtain ⟨a, cap, bv0, h1, h2, h3⟩ := h.mem
  have e1 : Lies w4 w1.heap.size #[.slice a T.length cap, bv0] rdT := h1.same (hg _ h1.lt (Nat.le_refl _))
  obtain ⟨a', c', rfl⟩ := hr.shape
  have e2 := (e1.set 1 bv).set 0 (.slice a' T'.length c')
  have hb : Below w1.heap.size w1 w4 := ⟨hw.1.trans h.below.os, hw.2.1.trans h.below.tape, hw.2.2.trans h.below.output, Nat.le_trans h.below.size hz, fun k hk => (hg k (Nat.lt_of_lt_of_le hk h.below.size) (Nat.le_of_lt hk)).trans (h.below.block k hk)⟩
  have hf : Fr (fun k => k = w1.heap.size) w4 ((w4.setCell ⟨w1.heap.size, 1, none⟩ bv).setCell ⟨w1.heap.size, 0, none⟩ (.slice a' T'.length c')) := Fr.setCell (Fr.one w4 w1.heap.size 1 _) (fun _ => rfl) _
  refine ⟨⟨a', c', bv, e2, hr, ?_⟩, (hb.setCell (p := ⟨w1.heap.size, 1, none⟩) (Nat.le_refl _) _).setCell (p := ⟨w1.heap.size, 0, none⟩) (Nat.le_refl _) _, hok, hc, by rw [List.length_append]; simp; omega⟩
  have hl : (B ++ [b]).length = n + 1 := by rw [List.length_append, hn]; rfl
  rw [hl]
  refine Fr.owns ho hf (fun k hk e => ?_)
  have := (ho.lt k hk).1
  omega
def AdrR (w1 : World) (R : Nat × List Bx) (T' : List Tk) (e : Ending) (w' : World) : Prop := e = .returned (.int .i64 R.1) ∧ Below w1.heap.size w1 w' ∧ (R.1 = 0 → RdAt w1 w' T' R.2)
theorem AdrR.no {w1 w' : World} {R : Nat × List Bx} {T' : List Tk} {c : Nat} (h : R = (c, [])) (hc : c ≠ 0) (hb : Below w1.heap.size w1 w') : AdrR w1 R T' (.returned (.int .i64 c)) w' := by
  subst h
  exact ⟨rfl, hb, fun h => absurd h hc⟩
theorem AdrR.yes {w1 w' : World} {R : Nat × List Bx} {T' : List Tk} {B : List Bx} (h : R = (0, B)) (hb : RdAt w1 w' T' B) : AdrR w1 R T' (.returned (.int .i64 0)) w' := by
  subst h
  exact ⟨rfl, hb.below, fun _ => hb⟩
theorem RdAt.lt {w1 wr : World} {T : List Tk} {B : List Bx} (h : RdAt w1 wr T B) : w1.heap.size < wr.heap.size := by
  obtain ⟨_, _, _, h1, _⟩ := h.mem
  exact h1.lt
theorem old_cell {w0 W : World} {b i : Nat} {v : Value} (h : w0.cell? ⟨b, i, none⟩ = some v) (hb : b < w0.heap.size) (hW : Below w0.heap.size w0 W) : W.cell? ⟨b, i, none⟩ = some v := (hW.cell (p := ⟨b, i, none⟩) hb).trans h
theorem old_frozen {w0 W : World} {b i : Nat} {v : Bool} (h : w0.frozen? ⟨b, i, none⟩ = v) (hb : b < w0.heap.size) (hW : Below w0.heap.size w0 W) : W.frozen? ⟨b, i, none⟩ = v := by
  have e := hW.block b hb
  unfold World.frozen? at *
  rw [show (⟨b, i, none⟩ : Addr).block = b from rfl] at *
  rw [e]
  exact h
theorem blk_cell {W W' : World} {b i : Nat} {v : Option Value} (h : W.cell? ⟨b, i, none⟩ = v) (e : W'.heap[b]? = W.heap[b]?) : W'.cell? ⟨b, i, none⟩ = v := by
  unfold World.cell? at *
  rw [show (⟨b, i, none⟩ : Addr).block = b from rfl] at *
  rw [e]
  exact h
theorem blk_frozen {W W' : World} {b i : Nat} {v : Bool} (h : W.frozen? ⟨b, i, none⟩ = v) (e : W'.heap[b]? = W.heap[b]?) : W'.frozen? ⟨b, i, none⟩ = v := by
  unfold World.frozen? at *
  rw [show (⟨b, i, none⟩ : Addr).block = b from rfl] at *
  rw [e]
  exact h
set_option maxRecDepth 100000 in
set_option maxHeartbeats 8000000 in
theorem address_any (w1 w0 : World) (T : List Tk) (B : List Bx) (nm : ByteArray) (h : RdAt w1 w0 T B) :
    Calls Tryd.prog 79 #[.pointer (some ⟨w1.heap.size, 0, none⟩), .string nm] w0 (AdrR w1 (adrP (bl nm) (T.take (segN T)) B) (T.drop (segN T))) := by
  obtain ⟨a, n, cap, ba0, bc0, hn, hr, c0, c1, f0, f1, ho⟩ := h.cells
  have hlt := h.lt
  have HC := Lib.hid (fun W (hW : Below w0.heap.size w0 W) => And.intro (old_cell c0 hlt hW) (old_cell c1 hlt hW))
  have HF := Lib.hid (fun W (hW : Below w0.heap.size w0 W) => And.intro (old_frozen f0 hlt hW) (old_frozen f1 hlt hW))
  have HV := Lib.hid (fun k t ht => hr.at_ k t ht)
  have HH := Lib.hid h
  have HNN := Lib.hid hn
  have hnl : n ≤ 100000 := by rw [hn]; exact len_le h.cost
  have hsl : segN T ≤ n := by rw [hn]; exact List.findIdx_le_length
  obtain ⟨a1, m1, d1, hm1, hs1, hr1⟩ := to_any w1 hr (segN T) hsl
  obtain ⟨a2, m2, d2, hm2, hs2, hr2⟩ := from_any w1 hr (segN T) hsl
  have HO : Hid (∀ W, Below w0.heap.size w0 W → Calls Tryd.prog 91 #[.slice a1 m1 d1] W (AdPost (ofL (T.take (segN T))) W)) := Lib.hid (fun W hW => by
    refine of_any _ _ W ((hr1 w1 hr).below (h.below.trans (hW.mono h.below.size))) ?_ ?_
    · rw [List.length_take]; omega
    · exact Nat.le_trans (costT_le T _) h.cost)
  have HR2 := Lib.hid (hr2 w1 hr)
  have HG : Hid (T.take (segN T) = T.take (segN T)) := Lib.hid rfl
  obtain ⟨g, hg⟩ : ∃ g, g = segN T := ⟨_, rfl⟩
  have HGE := Lib.hid hg
  rw [← hg] at hsl hs1 hs2 HO HR2 ⊢
  generalize hof : ofL (T.take g) = R at *
  obtain ⟨⟨rl, rd⟩, rc⟩ := R
  obtain ⟨bn, hbn⟩ : ∃ bn, bn = B.length := ⟨_, rfl⟩
  have hfew : bn ≤ 100 := by rw [hbn]; exact h.few
  have HBN := Lib.hid hbn
  have HOF := Lib.hid hof
  rw [← hbn] at HC ho c1
  have HOW := Lib.hid ho
  clear h hr hn hr1 hr2 hm1 hm2 HG hg hof hbn c0 c1 f0 f1 ho
  go_enter Tryd.func79, Tryd.ntmps79
  go_wp2_with fail
  go_loopw [5] (fun i wr => ∃ k : Nat, k ≤ g ∧ i = .int .i64 k ∧ Hid (∀ x ∈ T.take k, endT x = false) ∧ Hid (Below w0.heap.size w0 wr)) (fun i _ => n - (intOf i).toNat)
  case atStart => exact ⟨0, Nat.zero_le _, rfl, Lib.hid (by simp), Lib.hid (Below.refl _ _)⟩
  case round =>
    obtain ⟨k, hk, rfl, hall, hB⟩ := hrel
    obtain ⟨c0, c1⟩ := HC.out wr hB.out
    by_cases hkg : k < g
    · obtain ⟨t, ht⟩ : ∃ a, T[k]? = some a := ⟨T[k]'(by have := HNN.out; omega), List.getElem?_eq_getElem _⟩
      obtain ⟨b1, o1, rfl, hb1, r1⟩ := HV.out k t ht
      obtain ⟨d0, d1'⟩ := two (range_below r1 hb1 (HH.out.below.mono (Nat.le_refl _) |>.trans (hB.out.mono HH.out.below.size)))
      have he : endT t = false := by
        rw [← Bool.not_eq_true]
        intro he
        have := seg_here ht hall.out he
        have := HGE.out
        omega
      have HN := Lib.hid (all_take ht hall.out he)
      have HE := Lib.hid (isEnder_any t wr (HH.out.ok t (List.mem_of_getElem? ht)))
      rw [he] at HE
      clear ht r1 he
      go_wp2_with fail
      refine HE.out.mono ?_
      rintro e w2 ⟨rfl, hb⟩
      have HB2 := Lib.hid (hB.out.trans (hb.mono hB.out.size))
      clear hb
      go_wp2_with fail
      go_roundw
      case rel => exact ⟨k + 1, by omega, by simp, HN, HB2⟩
      case measure => simp [intOf]; omega
    · obtain rfl : k = g := by omega
      clear hkg
      have hways : (k < n ∧ ∃ t, T[k]? = some t ∧ endT t = true) ∨ ¬ k < n := by
        by_cases hkn : k < n
        · left
          have hl : k < T.length := by have := HNN.out; omega
          refine ⟨hkn, T[k], List.getElem?_eq_getElem hl, ?_⟩
          have h1 := HGE.out
          subst h1
          exact List.findIdx_getElem (w := hl)
        · right; omega
      rcases hways with ⟨hkn, t, ht, he⟩ | hkn
      obtain ⟨b1, o1, rfl, hb1, r1⟩ := HV.out k t ht
      obtain ⟨d0, d1'⟩ := two (range_below r1 hb1 (HH.out.below.mono (Nat.le_refl _) |>.trans (hB.out.mono HH.out.below.size)))
      have HE := Lib.hid (isEnder_any t wr (HH.out.ok t (List.mem_of_getElem? ht)))
      rw [he] at HE
      clear ht r1 he
      go_wp2_with fail
      refine HE.out.mono ?_
      rintro e w2 ⟨rfl, hb⟩
      have HB2 := Lib.hid (hB.out.trans (hb.mono hB.out.size))
      obtain ⟨e0, e1⟩ := HC.out w2 HB2.out
      clear hb c0 c1 d0 d1'
      go_wp2_with fail
      rotate_left
      obtain ⟨w2, hw2⟩ : ∃ w2, w2 = wr := ⟨_, rfl⟩
      subst hw2
      have HB2 := Lib.hid hB.out
      go_wp2_with fail
      all_goals
        refine (HO.out _ HB2.out).mono ?_
        rintro e w3 ⟨rfl, hb⟩
        have HB3 := Lib.hid (HB2.out.trans (hb.mono HB2.out.size))
        have HB4 : Hid (Below w0.heap.size w0 (w3.alloc (boxA adT (ba rl) (ba rd)))) := Lib.hid (HB3.out.alloc HB3.out.size _)
        have HB5 : Hid (Below w1.heap.size w1 (w3.alloc (boxA adT (ba rl) (ba rd)))) := Lib.hid (HH.out.below.trans (HB4.out.mono HH.out.below.size))
        clear hb
        dsimp only
        by_cases hrc : rc = 0
        · obtain ⟨g0, g1⟩ := HC.out _ HB4.out
          by_cases hfull : bn = 100
          · have HX : Hid (adrP (bl nm) (T.take k) B = (8, [])) := Lib.hid (adr_full (by rw [HOF.out]; exact hrc) (by rw [← HBN.out]; exact hfull))
            have hq : ((bn : Int) == 100) = true := by rw [hfull]; rfl
            have hq0 : ((rc : Int) != 0) = false := by rw [hrc]; rfl
            clear hfull hrc
            go_wp2_with fail
            go_ret
            exact AdrR.no HX.out (by decide) HB5.out
          · have HX : Hid (adrP (bl nm) (T.take k) B = (0, B ++ [⟨nm, ba rl, ba rd⟩])) := Lib.hid (by
              rw [adr_yes (by rw [HOF.out]; exact hrc) (by rw [← HBN.out]; exact hfull), HOF.out]
              show (0, B ++ [⟨ba (bl nm), ba rl, ba rd⟩]) = _
              rw [ba_bl])
            have hq : ((bn : Int) == 100) = false := by rw [beq_eq_false_iff_ne]; omega
            have hq0 : ((rc : Int) != 0) = false := by rw [hrc]; rfl
            have hA := new_boxA w3 adT (ba rl) (ba rd)
            obtain ⟨p0, p1⟩ := twoA hA
            obtain ⟨q0, q1⟩ := HF.out _ HB4.out
            have hod : (w3.alloc (boxA adT (ba rl) (ba rd))).drew.ownsRow (w1.heap.size + 1) bxT 3 (.slice ba0 bn bc0) bn (B.flatMap bxC) := owns_below HOW.out HB4.out.drew
            obtain ⟨a', c', w4, hr, hh⟩ := append_oneB bn HBN.out.symm (w3.alloc (boxA adT (ba rl) (ba rd))).drew (w1.heap.size + 1) (.slice ba0 bn bc0) ⟨nm, ba rl, ba rd⟩ hod (by omega) (by simp; have := HB3.out.size; omega)
            rw [show (w3.alloc (boxA adT (ba rl) (ba rd))).drew.heap.size = w3.heap.size + 1 by simp] at hr
            have HR : Hid ((Builtin.append_ #[bxsT, bxsT] bxsT #[.slice ba0 bn bc0, .slice (some ⟨w3.heap.size + 1, 0, none⟩) 1 1]).run Tryd.prog ((w3.alloc (boxA adT (ba rl) (ba rd))).alloc (boxB bxT ⟨nm, ba rl, ba rd⟩)).drew = .ok (.slice a' (bn + 1) c') w4) := Lib.hid hr
            have hblk : ∀ j, j < w3.heap.size + 1 → j ≤ w1.heap.size → w4.heap[j]? = (w3.alloc (boxA adT (ba rl) (ba rd))).heap[j]? := by
              intro j hj hj2
              have h1 := hh.out.2.2.1.block j (by simp; omega) (fun e => by have := hh.out.2.2.2 j e.symm; omega)
              rw [h1]
              exact Below.heap_alloc _ _ _ (by simp; omega)
            have HP := Lib.hid fun (v : Value) hrd hok hco => ((HH.out.on HB4.out).push (w4 := w4) (v := v) (bv := .slice a' (bn + 1) c') (T' := T.drop k) ⟨nm, ba rl, ba rd⟩ (by have := HBN.out; omega) HBN.out hh.out.1 (by have := hh.out.2.1; simpa using this) (fun j hj hj2 => hblk j (by simpa using hj) hj2) ⟨hh.out.2.2.1.os, hh.out.2.2.1.tape, hh.out.2.2.1.output⟩ hrd hok hco)
            have hbe := hblk w1.heap.size (by have := HB3.out.size; omega) (Nat.le_refl _)
            have z0 := blk_cell g0 hbe
            have z1 := blk_frozen q0 hbe
            have z2 := blk_frozen q1 hbe
            have z3 := blk_cell g1 hbe
            have HRD : Hid (ReadsT w1 (.slice a2 m2 d2) (T.drop k) ∧ (∀ t ∈ T.drop k, Ok t) ∧ Lex.cost (T.drop k) ≤ 100000) := Lib.hid ⟨HR2.out, fun t ht => HH.out.ok t (List.mem_of_mem_drop ht), Nat.le_trans (cost_drop T k) HH.out.cost⟩
            obtain ⟨y0, y1⟩ := HC.out _ (HB4.out.alloc HB4.out.size (boxB bxT ⟨nm, ba rl, ba rd⟩))
            obtain ⟨x0, x1⟩ := twoA (range_below hA (by simp) ((Below.refl _ _).alloc (Nat.le_refl _) (boxB bxT ⟨nm, ba rl, ba rd⟩)))
            clear hfull hrc hr hh hblk hod hA hbe
            go_wp2_with fail
            go_region_law ((refine step_append_run (by rfl) _ _ _ (by rfl) _ _ _ (by rfl) (by rfl) HR.out ?_))
            all_goals
              go_wp2_with fail
              go_ret
              exact AdrR.yes HX.out (HP.out _ HRD.out.1 HRD.out.2.1 HRD.out.2.2)
        · have HX : Hid (adrP (bl nm) (T.take k) B = (rc, [])) := Lib.hid (by
            rw [adr_bad (by rw [HOF.out]; exact hrc), HOF.out])
          have hq0 : ((rc : Int) != 0) = true := by rw [bne_iff_ne]; omega
          go_wp2_with fail
          go_ret
          exact AdrR.no HX.out hrc HB5.out
end Go.Proofs.YtklmhjoiffaniaaDoor.Mbx
