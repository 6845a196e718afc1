/-
  Walks of the document head, the second part.
-/
import Derived.Test.YtegbkfloiiilfaaGreatDoorMgHeadR
import Derived.Deep.RegionLaw

/-
  The document's Parse.
-/
namespace Go.Proofs.YtegbkfloiiilfaaGreatDoor.Head
open Go Go.RowKit

/-- An append within a region that draws its order, its run laid. -/
theorem step_append_run {P : Program} {ops : Array Oper} {o : Oper} {a : Act} {w w' : World} {K : Act → World → Prop} {Q : Exit → Act → World → Prop} {E : Prop}
    (hg : o.guard = none) (s x : Operand) (t : TypeId) (hop : o.op = Op.call { callee := Callee.builtin Builtin.append, args := #[s, x], argTypes := #[t, t] })
    (u v r : Value) (hs : a.eval s = u) (hx : a.eval x = v) (hrun : (Builtin.append_ #[t, t] o.type #[u, v]).run P w = .ok r w') (hK : K (a.put o.dst r) w') :
    if Region.wanted o (yielded ops a.tmps) = true then Oper.wp P o a w K Q else E := by
  have hw : Region.wanted o (yielded ops a.tmps) = true := by simp [Region.wanted, hg]
  rw [if_pos hw]
  unfold Oper.wp
  simp [execOp, hop, resolve, invoke, builtin, hs, hx, hrun, Result.andThen]
  exact hK

def rawF (r : List UInt8) : Fd := ⟨ba (pre r), ba (post r)⟩
theorem colon_split {r : List UInt8} (h : r.contains 58 = true) : ∃ a b, r = a ++ 58 :: b ∧ ∀ x ∈ a, x ≠ 58 := by
  rcases first_colon r with ⟨h0, _⟩ | ⟨a, b, h1, h2, _⟩
  · rw [h] at h0; cases h0
  · exact ⟨a, b, h1, h2⟩
theorem raw_more {r : List UInt8} (h : r.contains 58 = true) (t : List UInt8) : rawF (r ++ t) = ⟨ba (pre r), ba (post r) ++ ba t⟩ ∧ (r ++ t).contains 58 = true := by
  obtain ⟨a, b, rfl, ha⟩ := colon_split h
  refine ⟨?_, by simp⟩
  unfold rawF
  rw [List.append_assoc, List.cons_append, (pre_run a (b ++ t) ha).1, (pre_run a (b ++ t) ha).2, (pre_run a b ha).1, (pre_run a b ha).2]
  congr 1
/-- So many bytes without a colon. -/
theorem colon_none {t : ByteArray} {k : Nat} (h : ∀ c ∈ (bl t).take k, c ≠ 58) (hk : ¬ k < t.size) : (bl t).contains 58 = false := by
  rw [List.take_of_length_le (by rw [bl_len]; omega)] at h
  cases hc : (bl t).contains 58
  · rfl
  · exact absurd rfl (h 58 (by simpa using hc))
theorem colon_here {t : ByteArray} {k : Nat} (h : ∀ c ∈ (bl t).take k, c ≠ 58) (hk : k < t.size) (h58 : t[k].toNat = 58) : (bl t).contains 58 = true ∧ ba (pre (bl t)) = t.extract 0 k ∧ ba (post (bl t)) = t.extract (k + 1) t.size ∧ (pre (bl t)).length = k := by
  have hd := drop_cons t k hk
  have h5 : t[k] = 58 := UInt8.toNat_inj.1 h58
  rw [h5] at hd
  have e : bl t = (bl t).take k ++ 58 :: (bl t).drop (k + 1) := by
    rw [← hd]; exact (List.take_append_drop k (bl t)).symm
  have hp := pre_run ((bl t).take k) ((bl t).drop (k + 1)) h
  rw [← e] at hp
  refine ⟨by rw [e]; simp, ?_, ?_, ?_⟩
  · apply bl_inj
    rw [bl_ba, hp.1, bl_extract]
    simp
  · apply bl_inj
    rw [bl_ba, hp.2, bl_from]
  · rw [hp.1, List.length_take, bl_len]; omega
structure RpAt (s : ByteArray) (w wr : World) (ov : Value) (R : List (List UInt8)) (a : Nat) (body : ByteArray) : Prop where
  own : FdsR w wr ov (R.map rawF)
  col : ∀ r ∈ R, r.contains 58 = true
  few : R.length ≤ 100
  small : ∀ r ∈ R, r.length ≤ a
  run : a < s.size → prsA [] (bl s) = prsA R ((bl s).drop a) ∧ body = ⟨#[]⟩
  fin : ¬ a < s.size → prsA [] (bl s) = (0, R, bl body)
theorem RpAt.start (s : ByteArray) (w : World) : RpAt s w w (.slice none 0 0) [] 0 ⟨#[]⟩ :=
  ⟨FdsR.start w, by simp, by simp, by simp, fun _ => ⟨rfl, rfl⟩, fun h => by
    have : bl s = [] := List.length_eq_zero_iff.1 (by rw [bl_len]; omega)
    rw [this]; rfl⟩
theorem flat_setv : ∀ (L : List Fd) (i : Nat) (f : Fd) (v : ByteArray), L[i]? = some f → (L.set i ⟨f.n, v⟩).flatMap fdC = (L.flatMap fdC).set (i * 2 + 1) (.string v)
  | [], i, f, v, h => by simp at h
  | x :: L, 0, f, v, h => by
    obtain rfl : x = f := by simpa using h
    simp [fdC]
  | x :: L, i + 1, f, v, h => by
    rw [List.set_cons_succ, List.flatMap_cons, flat_setv L i f v (by simpa using h), List.flatMap_cons, show (i + 1) * 2 + 1 = i * 2 + 1 + 1 + 1 by omega]
    simp [fdC]
/-- A value in a list that the call has made, written over. -/
theorem FdsR.setv {w wr : World} {b n c : Nat} {L : List Fd} (h : FdsR w wr (.slice (some ⟨b, 0, none⟩) n c) L) (hL : L.length = n) (i : Nat) (f : Fd) (hf : L[i]? = some f) (v : ByteArray) :
    wr.cell? ⟨b, i * 2, none⟩ = some (.string f.n) ∧ wr.cell? ⟨b, i * 2 + 1, none⟩ = some (.string f.v) ∧ wr.frozen? ⟨b, i * 2 + 1, none⟩ = false ∧ Hid (FdsR w (wr.setCell ⟨b, i * 2 + 1, none⟩ (.string v)) (.slice (some ⟨b, 0, none⟩) n c) (L.set i ⟨f.n, v⟩)) := by
  have hi := (List.getElem?_eq_some_iff.1 hf).1
  have ho := h.1
  have a0 := ho.cells (g := b) rfl (i * 2) (.string f.n) (by have := flat2_get L i f hf 0 (by omega); simpa [fdC] using this)
  have a1 := ho.cells (g := b) rfl (i * 2 + 1) (.string f.v) (by have := flat2_get L i f hf 1 (by omega); simpa [fdC] using this)
  rw [addr_add, Nat.zero_add] at a0 a1
  refine ⟨a0, a1, ?_, Lib.hid ⟨?_, h.2.setCell (p := ⟨b, i * 2 + 1, none⟩) (ho.lt b rfl).1 _⟩⟩
  · rcases ho.2 with ⟨h5, _⟩ | ⟨g', cap', cur, h5, _, h6, _⟩
    · cases h5
    · obtain ⟨e1, _, _⟩ := Value.slice.inj h5
      have e2 : b = g' := by simpa using e1
      subst e2
      exact frozen_of_row wr b _ cur _ h6
  · rw [flat_setv L i f v hf, List.length_set]
    exact owns_set ho (g := b) rfl (i * 2 + 1) (.string v) (by omega)
theorem RpPost.good {s : ByteArray} {w w' : World} {R : List (List UInt8)} {body : ByteArray} {v : Value} (h : prsA [] (bl s) = (0, R, bl body)) (hf : FdsR w w' v (R.map fld)) (_hb : True) : ∃ u, (Ending.returned (.tuple #[v, .string body, .int .i64 0]) : Ending) = .returned (.tuple #[u, .string (ba (parseB (bl s))), .int .i64 (parseC (bl s))]) ∧ FdsR w w' u (parseF (bl s)) := by
  refine ⟨v, ?_, ?_⟩
  · unfold parseB parseC
    rw [h]
    simp only [ba_bl]
    rfl
  · unfold parseF
    rw [h]
    exact hf
/-- What the document's Parse answers. -/
def RpPost (s : ByteArray) (w : World) : Ending → World → Prop := fun e w' => ∃ v, e = .returned (.tuple #[v, .string (ba (parseB (bl s))), .int .i64 (parseC (bl s))]) ∧ FdsR w w' v (parseF (bl s))
theorem RpPost.bad {s : ByteArray} {w w' : World} {c : Nat} (h : prsA [] (bl s) = (c, [], [])) (hb : Below w.heap.size w w') : RpPost s w (.returned (.tuple #[.slice none 0 0, .string ⟨#[]⟩, .int .i64 c])) w' := by
  refine ⟨.slice none 0 0, ?_, ?_⟩
  · unfold parseB parseC
    rw [h]
  · unfold parseF
    rw [h]
    exact ⟨World.ownsRow_nil _ _ _ _, hb⟩
theorem fld_raw (r : List UInt8) : fld r = ⟨(rawF r).n, ba (trimL (bl (rawF r).v))⟩ := by
  unfold fld rawF
  rw [bl_ba]
/-- The fields while their values are trimmed. -/
structure RtAt (w wr : World) (ov : Value) (R : List (List UInt8)) (i : Nat) : Prop where
  own : FdsR w wr ov ((R.take i).map fld ++ (R.drop i).map rawF)
theorem mid_len {α β : Type} (f g : α → β) (R : List α) (i : Nat) : ((R.take i).map f ++ (R.drop i).map g).length = R.length := by
  rw [List.length_append, List.length_map, List.length_map, ← List.length_append, List.take_append_drop]
set_option maxRecDepth 100000 in
set_option maxHeartbeats 4000000 in
theorem rparse_any (s : ByteArray) (w : World) (hs : s.size ≤ 1000000) :
    Calls Tryz.prog 38 #[.string s] w (RpPost s w) := by
  have HI := Lib.hid (RpAt.start s w)
  go_enter Tryz.func38, Tryz.ntmps38
  go_wp2_with fail
  go_loopw [5, 6, 7] (fun ov bv av wr => ∃ (R : List (List UInt8)) (a : Nat) (body : ByteArray), a ≤ s.size ∧ av = .int .i64 a ∧ bv = .string body ∧ Hid (RpAt s w wr ov R a body)) (fun _ _ av _ => s.size - (intOf av).toNat)
  case atStart => exact ⟨[], 0, ⟨#[]⟩, Nat.zero_le _, rfl, rfl, HI⟩
  case round =>
    clear HI
    obtain ⟨R, a, body, has, rfl, rfl, hP⟩ := hrel
    obtain ⟨oa, oc, rfl⟩ := owns_slice hP.out.own.1
    obtain ⟨n, hn⟩ : ∃ n, n = R.length := ⟨_, rfl⟩
    have hn1 : n ≤ 100 := by rw [hn]; exact hP.out.few
    rw [List.length_map, ← hn]
    have HNN := Lib.hid hn
    clear hn
    by_cases hlt : a < s.size
    · obtain ⟨hrun, hbody⟩ := hP.out.run hlt
      have HLN := Lib.hid (fun W => rline_any (s.extract a s.size) W (by rw [ByteArray.size_extract]; omega))
      rw [bl_from] at HLN
      have hix := index_crlf ((bl s).drop a)
      have hne : (bl s).drop a ≠ [] := by
        intro e
        have := congrArg List.length e
        rw [List.length_drop, bl_len, List.length_nil] at this
        omega
      cases hc : cut2 ((bl s).drop a) with
      | none =>
        rw [hc] at hix
        rw [show lineN ((bl s).drop a) = -1 from hix] at HLN
        have HE : Hid (prsA [] (bl s) = (9, [], [])) := Lib.hid (by rw [hrun, prsA_short hne hc])
        clear hrun hbody hix hne hc
        go_wp2_with fail
        refine (HLN.out _).mono ?_
        rintro e w1 ⟨rfl, rfl⟩
        go_wp2_with fail
        go_ret3
        exact RpPost.bad HE.out hP.out.own.2
      | some p =>
        obtain ⟨t, r⟩ := p
        rw [hc] at hix
        rw [show lineN ((bl s).drop a) = (t.length : Int) from hix] at HLN
        have hlen := cut2_len hc
        have hcut := cut2_some hc
        rw [List.length_drop, bl_len] at hlen
        have ht : s.extract a (a + t.length) = ba t := by
          apply bl_inj
          rw [bl_extract, hcut, bl_ba]
          simp
        have hr : (bl s).drop (a + t.length + 2) = r := by
          rw [show a + t.length + 2 = a + (t.length + 2) by omega, ← List.drop_drop, hcut, List.drop_append, List.drop_eq_nil_of_le (by omega)]
          simp
        obtain ⟨m, hm⟩ : ∃ m, m = t.length := ⟨_, rfl⟩
        rw [← hm] at HLN ht hr hlen
        have hat : a + m + 2 ≤ s.size := by omega
        have HM := Lib.hid hm
        clear hm
        by_cases htn : t = []
        · subst htn
          obtain rfl : m = 0 := HM.out
          have HE : Hid (RpAt s w wr (.slice oa n oc) R s.size (s.extract (a + 2) s.size)) := Lib.hid ⟨by have := hP.out.own; rw [List.length_map, ← HNN.out] at this; exact this, hP.out.col, hP.out.few, fun r hr => by have := hP.out.small r hr; omega, fun h => absurd h (Nat.lt_irrefl _), fun _ => by
            rw [hrun, prsA_end hc, bl_from, ← hr]⟩
          clear hrun hbody hix hne hc hcut hr ht hlen
          go_wp2_with fail
          refine (HLN.out _).mono ?_
          rintro e w1 ⟨rfl, rfl⟩
          go_wp2_with fail
          go_roundw
          case rel => exact ⟨R, s.size, _, Nat.le_refl _, rfl, rfl, HE⟩
          case measure => simp [intOf]; omega
        · have hm0 : 0 < m := by rw [HM.out]; exact List.length_pos_iff.2 htn
          have hmz : ((m : Int) == 0) = false := by rw [beq_eq_false_iff_ne]; omega
          have hbad : ∀ c, chk t n = c → c ≠ 0 → Hid (prsA [] (bl s) = (c, [], [])) := fun c h1 h2 => Lib.hid (by
            have h3 : chk t R.length = c := by rw [← HNN.out]; exact h1
            rw [hrun, prsA_bad hc htn (by rw [h3]; exact h2), h3])
          have hgood : chk t n = 0 → prsA [] (bl s) = prsA (add R t) r := fun h1 => by
            rw [hrun, prsA_next hc htn (by rw [← HNN.out]; exact h1)]
          have hck : chk t n = if 998 < m then 2 else if textB t = false then 150 else if hdB t = true then (if n = 0 then 150 else 0) else if fieldB t = false then 150 else if n = 100 then 8 else 0 := by
            unfold chk
            rw [← HM.out]
          have hat2 : (bl s).drop (a + m + 2) = r := hr
          have hemp : r = [] ↔ ¬ a + m + 2 < s.size := by
            rw [← hr]
            constructor
            · intro h
              have := congrArg List.length h
              rw [List.length_drop, bl_len, List.length_nil] at this
              omega
            · intro h
              exact List.drop_eq_nil_of_le (by rw [bl_len]; omega)
          have HNXT : Hid (∀ (R' : List (List UInt8)) (W : World) (v : Value), prsA [] (bl s) = prsA R' r → FdsR w W v (R'.map rawF) → (∀ x ∈ R', x.contains 58 = true) → R'.length ≤ 100 → (∀ x ∈ R', x.length ≤ a + m + 2) → RpAt s w W v R' (a + m + 2) body) := Lib.hid (fun R' W v h1 h2 h3 h4 h5 => ⟨h2, h3, h4, h5, fun h => ⟨by rw [hr]; exact h1, hbody⟩, fun h => by
            rw [h1, hemp.2 h, prsA_nil, hbody]⟩)
          obtain ⟨bt, hbt⟩ : ∃ bt, bt = ba t := ⟨_, rfl⟩
          have hbts : bt.size = m := by rw [hbt, ba_size, HM.out]
          have hblt : bl bt = t := by rw [hbt, bl_ba]
          have HT := Lib.hid (fun W => rtext_any bt W (by omega))
          rw [hblt] at HT
          rw [← hbt] at ht
          have HBT := Lib.hid (And.intro hblt hbts)
          have hsz : (bt.size : Int) = (m : Int) := by omega
          have hbts0 : 0 < bt.size := by omega
          clear hbt hblt hbts
          by_cases c1 : 998 < m
          · have d1 : (998 : Int) < (m : Int) := by omega
            rw [if_pos c1] at hck
            have HE := hbad 2 hck (by decide)
            clear hrun hbody hix hne hc hcut hr hlen hbad hgood hck hat2 hemp
            go_wp2_with fail
            refine (HLN.out _).mono ?_
            rintro e w1 ⟨rfl, rfl⟩
            go_wp2_with fail
            go_ret3
            exact RpPost.bad HE.out hP.out.own.2
          · have d1 : ¬ (998 : Int) < (m : Int) := by omega
            rw [if_neg c1] at hck
            cases c2 : textB t
            · rw [c2, if_pos rfl] at hck
              rw [c2] at HT
              have HE := hbad 150 hck (by decide)
              clear hrun hbody hix hne hc hcut hr hlen hbad hgood hck hat2 hemp
              go_wp2_with fail
              refine (HLN.out _).mono ?_
              rintro e w1 ⟨rfl, rfl⟩
              go_wp2_with fail
              refine (HT.out _).mono ?_
              rintro e w1 ⟨rfl, rfl⟩
              go_wp2_with fail
              go_ret3
              exact RpPost.bad HE.out hP.out.own.2
            · rw [c2, if_neg (by decide)] at hck
              rw [c2] at HT
              have HBL := Lib.hid (fun W => rblank_any (bt[0]'hbts0) W)
              have hhd := hd_get bt hbts0
              rw [HBT.out.1] at hhd
              rw [← hhd] at HBL
              cases c3 : hdB t
              · rw [c3, if_neg (by decide)] at hck
                rw [c3] at HBL
                have HCK := Lib.hid hck
                have HBAD := Lib.hid hbad
                have HGOOD := Lib.hid hgood
                have HC3 := Lib.hid c3
                have hown0 := hP.out.own
                rw [List.length_map, ← HNN.out] at hown0
                have HOWN := Lib.hid hown0
                clear hrun hbody hix hne hc hcut hr hlen hbad hgood hck hat2 hemp hhd c2 c3 hown0
                go_wp2_with fail
                refine (HLN.out _).mono ?_
                rintro e w1 ⟨rfl, rfl⟩
                go_wp2_with fail
                refine (HT.out _).mono ?_
                rintro e w1 ⟨rfl, rfl⟩
                go_wp2_with fail
                refine (HBL.out _).mono ?_
                rintro e w1 ⟨rfl, rfl⟩
                go_wp2_with fail
                go_loopw [10] (fun kv w2 => ∃ j : Nat, j ≤ bt.size ∧ kv = .int .i64 j ∧ Hid (∀ c ∈ (bl bt).take j, c ≠ 58) ∧ wr = w2) (fun kv _ => bt.size - (intOf kv).toNat)
                case atStart => exact ⟨0, Nat.zero_le _, rfl, Lib.hid (by simp), rfl⟩
                case round =>
                  obtain ⟨j, hj, rfl, hall, rfl⟩ := hrel
                  by_cases hjl : j < bt.size
                  · by_cases h58 : bt[j].toNat = 58
                    · have q58 : ((bt[j].toNat : Int) != 58) = false := by rw [h58]; rfl
                      obtain ⟨k1, k2, k3, k4⟩ := colon_here hall.out hjl h58
                      rw [HBT.out.1] at k1 k2 k3 k4
                      have hje : ((j : Int) == (m : Int)) = false := by rw [beq_eq_false_iff_ne]; omega
                      have hje2 : ((j : Int) == (bt.size : Int)) = false := by rw [beq_eq_false_iff_ne]; omega
                      have HNM := Lib.hid (fun W => rname_any (bt.extract 0 j) W (by rw [ByteArray.size_extract]; omega))
                      have hpn : bl (bt.extract 0 j) = pre t := by rw [← k2, bl_ba]
                      rw [hpn] at HNM
                      have hfb : fieldB t = nameB (pre t) := by unfold fieldB; rw [k1]; rfl
                      cases hnb : nameB (pre t)
                      · rw [hnb] at HNM hfb
                        have HE := HBAD.out 150 (by rw [HCK.out, hfb, if_pos rfl]) (by decide)
                        clear k1 k2 k3 k4 hpn hfb hnb hall h58
                        go_wp2_with fail
                        refine (HNM.out _).mono ?_
                        rintro e w1 ⟨rfl, rfl⟩
                        go_wp2_with fail
                        go_ret3
                        exact RpPost.bad HE.out hP.out.own.2
                      · rw [hnb] at HNM hfb
                        by_cases h100 : n = 100
                        · have q100 : ((n : Int) == 100) = true := by rw [h100]; rfl
                          have HE := HBAD.out 8 (by rw [HCK.out, hfb, if_neg (by decide), if_pos h100]) (by decide)
                          clear k1 k2 k3 k4 hpn hfb hnb hall h58 h100
                          go_wp2_with fail
                          refine (HNM.out _).mono ?_
                          rintro e w1 ⟨rfl, rfl⟩
                          go_wp2_with fail
                          go_ret3
                          exact RpPost.bad HE.out hP.out.own.2
                        · have q100 : ((n : Int) == 100) = false := by rw [beq_eq_false_iff_ne]; omega
                          have hg := HGOOD.out (by rw [HCK.out, hfb, if_neg (by decide), if_neg h100])
                          have hown : FdsR w wr.drew (.slice oa n oc) (R.map rawF) := ⟨HOWN.out.1, HOWN.out.2.drew⟩
                          obtain ⟨a', c', w4, hr, hh⟩ := hown.add (by rw [List.length_map, ← HNN.out]) ⟨bt.extract 0 j, bt.extract (j + 1) bt.size⟩ (by omega)
                          have HR : Hid ((Builtin.append_ #[rfsT, rfsT] rfsT #[.slice oa n oc, .slice (some ⟨wr.heap.size, 0, none⟩) 1 1]).run Tryz.prog (wr.alloc (boxF rfT ⟨bt.extract 0 j, bt.extract (j + 1) bt.size⟩)).drew = .ok (.slice a' (n + 1) c') w4) := Lib.hid hr
                          have HN : Hid (RpAt s w w4 (.slice a' (n + 1) c') (R ++ [t]) (a + m + 2) body) := Lib.hid (by
                            refine HNXT.out _ _ _ ?_ ?_ ?_ ?_ ?_
                            · rw [hg]
                              unfold add
                              rw [HC3.out, if_neg (by decide)]
                            · have h7 := hh.out.1
                              rw [show (⟨bt.extract 0 j, bt.extract (j + 1) bt.size⟩ : Fd) = rawF t by unfold rawF; rw [k2, k3]] at h7
                              rw [List.map_append]
                              exact h7
                            · intro x hx
                              rcases List.mem_append.1 hx with hx | hx
                              · exact hP.out.col x hx
                              · rw [List.mem_singleton.1 hx]; exact k1
                            · have h8 := HNN.out
                              rw [List.length_append]
                              simp only [List.length_cons, List.length_nil]
                              omega
                            · intro x hx
                              rcases List.mem_append.1 hx with hx | hx
                              · have := hP.out.small x hx; omega
                              · rw [List.mem_singleton.1 hx, ← HM.out]; omega)
                          have hwr : IntKind.i64.wrap ((j : Int) + 1) = (j : Int) + 1 := by rw [IntKind.wrap_i64]; omega
                          have s1 : (j : Int) ≤ (bt.size : Int) := by omega
                          have s2 : (j : Int) + 1 ≤ (bt.size : Int) := by omega
                          have s3 : (0 : Int) ≤ (j : Int) + 1 := by omega
                          have s4 : (0 : Int) ≤ (j : Int) := by omega
                          have t1 : j ≤ m := by omega
                          have t2 : (j : Int) + 1 ≤ (m : Int) := by omega
                          have t3 : (j : Int) ≤ (m : Int) := by omega
                          have t4 : j + 1 ≤ m := by omega
                          clear k1 k2 k3 k4 hpn hfb hnb hall h58 h100 hr hh hg hown
                          go_wp2_with fail
                          refine (HNM.out _).mono ?_
                          rintro e w1 ⟨rfl, rfl⟩
                          go_wp2_with fail
                          go_region_law ((refine step_append_run (by rfl) _ _ _ (by rfl) _ _ _ (by rfl) (by rfl) HR.out ?_))
                          all_goals
                            go_simp
                            go_wp2_with fail
                            go_roundw
                            case rel => exact ⟨_, a + m + 2, body, by omega, by simp, rfl, HN⟩
                            case measure => simp [intOf]; omega
                    · have q58 : ((bt[j].toNat : Int) != 58) = true := by rw [bne_iff_ne]; omega
                      have HNJ : Hid (∀ c ∈ (bl bt).take (j + 1), c ≠ 58) := Lib.hid (by
                        intro c hc
                        rw [List.take_succ_eq_append_getElem (by rw [bl_len]; exact hjl)] at hc
                        rcases List.mem_append.1 hc with hc | hc
                        · exact hall.out c hc
                        · rintro rfl
                          have : (bl bt)[j]'(by rw [bl_len]; exact hjl) = 58 := (List.mem_singleton.1 hc).symm
                          exact h58 (by show ((bl bt)[j]'(by rw [bl_len]; exact hjl)).toNat = 58; rw [this]; rfl))
                      clear h58
                      go_wp2_with fail
                      go_roundw
                      case rel => exact ⟨j + 1, by omega, by simp, HNJ, trivial⟩
                      case measure => simp [intOf]; omega
                  · have hje : ((j : Int) == (m : Int)) = true := by rw [beq_iff_eq]; omega
                    have hje2 : ((j : Int) == (bt.size : Int)) = true := by rw [beq_iff_eq]; omega
                    have hnc := colon_none hall.out hjl
                    rw [HBT.out.1] at hnc
                    have HE := HBAD.out 150 (by rw [HCK.out, if_pos (by unfold fieldB; rw [hnc]; rfl)]) (by decide)
                    clear hall hnc
                    go_wp2_with fail
                    go_ret3
                    exact RpPost.bad HE.out hP.out.own.2
              · rw [c3, if_pos rfl] at hck
                rw [c3] at HBL
                by_cases c4 : n = 0
                · rw [if_pos c4] at hck
                  have HE := hbad 150 hck (by decide)
                  subst c4
                  clear hrun hbody hix hne hc hcut hr hlen hbad hgood hck hat2 hemp hhd
                  go_wp2_with fail
                  refine (HLN.out _).mono ?_
                  rintro e w1 ⟨rfl, rfl⟩
                  go_wp2_with fail
                  refine (HT.out _).mono ?_
                  rintro e w1 ⟨rfl, rfl⟩
                  go_wp2_with fail
                  refine (HBL.out _).mono ?_
                  rintro e w1 ⟨rfl, rfl⟩
                  go_wp2_with fail
                  go_ret3
                  exact RpPost.bad HE.out hP.out.own.2
                · rw [if_neg c4] at hck
                  have hg := hgood hck
                  obtain ⟨k, hkn⟩ : ∃ k, n = k + 1 := ⟨n - 1, by omega⟩
                  obtain ⟨G, u, hGu⟩ : ∃ G u, R = G ++ [u] := by
                    have : R ≠ [] := by intro e; have h9 := HNN.out; rw [e] at h9; exact c4 h9
                    exact ⟨R.dropLast, R.getLast this, (List.dropLast_concat_getLast this).symm⟩
                  subst hGu
                  have hGk : G.length = k := by have h9 := HNN.out; simp at h9; omega
                  have hown := hP.out.own
                  rw [List.length_map, ← HNN.out] at hown
                  subst hkn
                  obtain ⟨b, rfl⟩ : ∃ b, oa = some ⟨b, 0, none⟩ := by
                    rcases hown.1.2 with ⟨h5, _⟩ | ⟨g', cap', cur, h5, _⟩
                    · obtain ⟨_, h6, _⟩ := Value.slice.inj h5
                      omega
                    · obtain ⟨h6, _, _⟩ := Value.slice.inj h5
                      exact ⟨g', h6⟩
                  have hfu : ((G ++ [u]).map rawF)[k]? = some (rawF u) := by
                    rw [List.map_append, List.getElem?_append_right (by rw [List.length_map]; omega)]
                    simp [hGk]
                  have hmore := raw_more (hP.out.col u (by simp)) t
                  obtain ⟨e0, e1, e2, hset⟩ := hown.setv (by rw [List.length_map]; simp [hGk]) k (rawF u) hfu (ba (post u) ++ bt)
                  have hun := hP.out.small u (by simp)
                  have hpl := post_le u
                  have hvz : (rawF u).v.size ≤ 1000000 := by
                    show (ba (post u)).size ≤ _
                    rw [ba_size]; omega
                  have HN : Hid (RpAt s w (wr.setCell ⟨b, k * 2 + 1, none⟩ (.string ((rawF u).v ++ bt))) (.slice (some ⟨b, 0, none⟩) (k + 1) oc) (G ++ [u ++ t]) (a + m + 2) body) := Lib.hid (by
                    refine HNXT.out _ _ _ ?_ ?_ ?_ ?_ ?_
                    · rw [hg]
                      unfold add
                      rw [c3, if_pos rfl]
                      simp
                    · have h7 := hset.out
                      have h8 : ((G ++ [u]).map rawF).set k ⟨(rawF u).n, ba (post u) ++ bt⟩ = (G ++ [u ++ t]).map rawF := by
                        rw [List.map_append, List.map_append, List.set_append_right _ _ (by rw [List.length_map]; omega)]
                        rw [List.length_map, hGk, Nat.sub_self]
                        show _ ++ [_] = _ ++ [rawF (u ++ t)]
                        rw [hmore.1, show bt = ba t from bl_inj (by rw [HBT.out.1, bl_ba])]
                        rfl
                      rw [h8] at h7
                      exact h7
                    · intro x hx
                      rcases List.mem_append.1 hx with hx | hx
                      · exact hP.out.col x (by simp [hx])
                      · rw [List.mem_singleton.1 hx]; exact hmore.2
                    · have := hP.out.few; simpa using this
                    · intro x hx
                      rcases List.mem_append.1 hx with hx | hx
                      · have := hP.out.small x (by simp [hx]); omega
                      · rw [List.mem_singleton.1 hx, List.length_append, ← HM.out]; omega)
                  have hsub : ((k + 1 : Nat) : Int) - 1 = (k : Int) := by omega
                  clear hrun hbody hix hne hc hcut hr hlen hbad hgood hck hat2 hemp hhd hset hmore hfu hown hg
                  generalize (rawF u).n = un at *
                  generalize (rawF u).v = uv at *
                  go_wp2_with fail
                  refine (HLN.out _).mono ?_
                  rintro e w1 ⟨rfl, rfl⟩
                  go_wp2_with fail
                  refine (HT.out _).mono ?_
                  rintro e w1 ⟨rfl, rfl⟩
                  go_wp2_with fail
                  refine (HBL.out _).mono ?_
                  rintro e w1 ⟨rfl, rfl⟩
                  go_wp2_with fail
                  go_roundw
                  case rel => exact ⟨_, a + m + 2, body, by omega, by simp, rfl, HN⟩
                  case measure => simp [intOf]; omega
    · have HE := Lib.hid (hP.out.fin hlt)
      have HS : Hid (RtAt w wr (.slice oa n oc) R 0) := Lib.hid ⟨by have := hP.out.own; rw [List.length_map, ← HNN.out] at this; simpa using this⟩
      have HSM : Hid (∀ r ∈ R, r.length ≤ a) := Lib.hid hP.out.small
      clear hP
      go_wp2_with fail
      go_loopw [11] (fun i wr => ∃ k : Nat, k ≤ n ∧ i = .int .i64 k ∧ Hid (RtAt w wr (.slice oa n oc) R k)) (fun i _ => n - (intOf i).toNat)
      case atStart => exact ⟨0, Nat.zero_le _, rfl, HS⟩
      case round =>
        clear HS
        obtain ⟨k, hk, rfl, hR⟩ := hrel
        by_cases hlt2 : k < n
        · obtain ⟨r, hr⟩ : ∃ r, R[k]? = some r := ⟨R[k]'(by have := HNN.out; omega), List.getElem?_eq_getElem _⟩
          obtain ⟨b, rfl⟩ : ∃ b, oa = some ⟨b, 0, none⟩ := by
            rcases hR.out.own.1.2 with ⟨h5, _⟩ | ⟨g', cap', cur, h5, _⟩
            · obtain ⟨_, h6, _⟩ := Value.slice.inj h5
              omega
            · obtain ⟨h6, _, _⟩ := Value.slice.inj h5
              exact ⟨g', h6⟩
          have hkl : (R.take k).length = k := by rw [List.length_take]; have := HNN.out; omega
          have hget : ((R.take k).map fld ++ (R.drop k).map rawF)[k]? = some (rawF r) := by
            rw [List.getElem?_append_right (by rw [List.length_map]; omega), List.length_map, hkl, Nat.sub_self, List.getElem?_map, List.getElem?_drop, Nat.add_zero, hr]
            rfl
          have hvz : (rawF r).v.size ≤ 1000000000 := by
            show (ba (post r)).size ≤ _
            rw [ba_size]
            have h1 := post_le r
            have h2 := HSM.out r (List.mem_of_getElem? hr)
            omega
          have HTR := Lib.hid (fun W => rtrim_any (rawF r).v W hvz)
          obtain ⟨e0, e1, e2, hset⟩ := hR.out.own.setv (by rw [mid_len, ← HNN.out]) k (rawF r) hget (ba (trimL (bl (rawF r).v)))
          have HN : Hid (RtAt w (wr.setCell ⟨b, k * 2 + 1, none⟩ (.string (ba (trimL (bl (rawF r).v))))) (.slice (some ⟨b, 0, none⟩) n oc) R (k + 1)) := Lib.hid ⟨by
            have h7 := hset.out
            rw [← fld_raw] at h7
            have h8 : ((R.take k).map fld ++ (R.drop k).map rawF).set k (fld r) = (R.take (k + 1)).map fld ++ (R.drop (k + 1)).map rawF := by
              have hd : R.drop k = r :: R.drop (k + 1) := by
                obtain ⟨h1, h2⟩ := List.getElem?_eq_some_iff.1 hr
                rw [List.drop_eq_getElem_cons h1, h2]
              rw [hd, List.map_cons, List.set_append_right _ _ (by rw [List.length_map]; omega), List.length_map, hkl, Nat.sub_self, List.set_cons_zero, List.take_add_one, hr]
              simp
            rw [h8] at h7
            exact h7⟩
          clear hset hget hr
          generalize (rawF r).n = un at *
          generalize ba (trimL (bl (rawF r).v)) = tv at *
          generalize (rawF r).v = uv at *
          go_wp2_with fail
          refine (HTR.out _).mono ?_
          rintro e w1 ⟨rfl, rfl⟩
          go_wp2_with fail
          go_roundw
          case rel => exact ⟨k + 1, by omega, by simp, HN⟩
          case measure => simp [intOf]; omega
        · have HF : Hid (FdsR w wr (.slice oa n oc) (R.map fld)) := Lib.hid (by
            have h := hR.out.own
            rw [List.take_of_length_le (by have := HNN.out; omega), List.drop_eq_nil_of_le (by have := HNN.out; omega)] at h
            simpa using h)
          go_wp2_with fail
          go_ret3
          exact RpPost.good HE.out HF.out trivial
end Go.Proofs.YtegbkfloiiilfaaGreatDoor.Head
