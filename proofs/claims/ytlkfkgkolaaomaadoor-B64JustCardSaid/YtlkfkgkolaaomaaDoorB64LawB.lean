/-
  The laws' walks: B64Back, B64Just.
-/
import Derived.Test.YtlkfkgkolaaomaaDoorB64LawA
import Derived.Test.YtlkfkgkolaaomaaDoorShaKept
namespace Go.Proofs.YtlkfkgkolaaomaaDoor.B64
open Go Go.RowKit
open Go.Proofs.YtlkfkgkolaaomaaDoor.Code
open Go.Proofs.YtlkfkgkolaaomaaDoor.Lex (bl ba bl_len ba_size bl_ba ba_bl bl_extract bl_from drop_cons drop_end index_any)
open Go.Proofs.YtlkfkgkolaaomaaDoor.Sha (Kept wp_region_kept)

theorem below_any (x : Int) (n : Nat) (w : World) (hn : 1 ≤ n) (hn2 : n ≤ 100000) :
    Calls Tryd.prog 13 #[.int .i64 x, .int .i64 n] w fun e w' => e = .returned (.int .i64 (x % (n : Int))) ∧ w' = w := by
  have ret_int : ∀ {k : IntKind} {a b : Int}, a = b → Ending.returned (.int k a) = .returned (.int k b) := fun h => by rw [h]
  have hE : x % (n : Int) = if x.tmod n < 0 then x.tmod n + n else x.tmod n := by
    have hp := Int.emod_nonneg x (show (n : Int) ≠ 0 by omega)
    have hl := Int.emod_lt_of_pos x (show (0 : Int) < n by omega)
    have h : x.tmod (n : Int) = x % (n : Int) - ((if 0 ≤ x ∨ (n : Int) ∣ x then 0 else Int.natAbs (n : Int) : Nat) : Int) := Int.tmod_eq_emod
    by_cases hc : 0 ≤ x ∨ (n : Int) ∣ x
    · rw [if_pos hc] at h
      rw [if_neg (by omega)]
      omega
    · rw [if_neg hc, Int.natAbs_natCast] at h
      rw [if_pos (by omega)]
      omega
  have hl := Int.tmod_lt_of_pos x (show (0 : Int) < n by omega)
  have hg : -(n : Int) < x.tmod n := Int.lt_tmod_of_pos x (by omega)
  have HE := Lib.hid hE
  clear hE
  go_enter Tryd.func13, Tryd.ntmps13
  go_wp2
  · go_ret
    exact ⟨ret_int (by rw [HE.out, if_pos (by assumption)]), rfl⟩
  · go_ret
    exact ⟨ret_int (by rw [HE.out, if_neg (by omega)]), rfl⟩

/-! B64Back. -/
/-- A call, in every world that keeps what lies in a world. -/
theorem kept_call {f : FuncId} {args : Array Value} {v : Value} (X : World) (h : ∀ W, Calls Tryd.prog f args W fun e W' => e = .returned v ∧ Below W.heap.size W W') (W : World) (hW : Kept X W) :
    Calls Tryd.prog f args W fun e W' => e = .returned v ∧ Kept X W' :=
  (h W).mono fun _e _W' he => ⟨he.1, hW.below.trans (he.2.mono hW.below.size)⟩
theorem dec_good {s : ByteArray} {t : ByteArray} (W : World) (hz : t.size ≤ 10000) (h : bareL (bl t) = plainL (bl s)) :
    Calls Tryd.prog 7 #[.string t] W fun e w' => e = .returned (.tuple #[.string s, .int .i64 0]) ∧ Below W.heap.size W w' := by
  have hd := decode_any t W (by omega)
  obtain ⟨h1, h2⟩ := dec_of h
  unfold DcPost decC at hd
  rw [h1, h2, ba_bl] at hd
  exact hd
set_option maxRecDepth 100000 in
set_option maxHeartbeats 2000000 in
theorem b64Back_any (s : ByteArray) (x : Int) (b : Bool) (w : World) : Calls Tryd.prog 4 #[.string s, .int .i64 x, .bool b] w (TrueP w) := by
  have HW := Lib.hid (works_any w)
  by_cases hs : 500 < s.size
  · have d : (500 : Int) < (s.size : Int) := by omega
    go_enter Tryd.func4, Tryd.ntmps4
    go_wp2_with fail
    refine HW.out.mono ?_
    rintro e w1 ⟨rfl, hb⟩
    have HB := Lib.hid hb
    clear hb
    go_wp2_with fail
    go_ret
    exact ⟨rfl, HB.out⟩
  have d : ¬ (500 : Int) < (s.size : Int) := by omega
  have HE := Lib.hid (fun W => encode_any s W (by omega))
  have HP := Lib.hid (fun W => plain_any s W (by omega))
  have htz : (ba (linesL (bl s))).size ≤ 4000 := by
    rw [ba_size]
    have := lines_len (bl s)
    rw [bl_len] at this
    omega
  have hpz : (ba (plainL (bl s))).size ≤ 4000 := by
    rw [ba_size]
    have := plain_len (bl s)
    rw [bl_len] at this
    omega
  have HT : Hid (bareL (bl (ba (linesL (bl s)))) = plainL (bl s)) := Lib.hid (by rw [bl_ba, lines_bare])
  have HQ : Hid (∀ W, Calls Tryd.prog 7 #[.string (ba (plainL (bl s)))] W fun e w' => e = .returned (.tuple #[.string s, .int .i64 0]) ∧ Below W.heap.size W w') := Lib.hid (fun W => dec_good W (by omega) (by rw [bl_ba, bare_plain]))
  generalize ba (linesL (bl s)) = t at *
  generalize ba (plainL (bl s)) = p at *
  obtain ⟨k, hk, hkx⟩ : ∃ k : Nat, k ≤ t.size ∧ x % ((t.size + 1 : Nat) : Int) = (k : Int) := by
    have h1 := Int.emod_nonneg x (show ((t.size + 1 : Nat) : Int) ≠ 0 by omega)
    have h2 := Int.emod_lt_of_pos x (show (0 : Int) < ((t.size + 1 : Nat) : Int) by omega)
    exact ⟨(x % ((t.size + 1 : Nat) : Int)).toNat, by omega, by omega⟩
  have HBL : Hid (∀ W, Calls Tryd.prog 13 #[.int .i64 x, .int .i64 ((t.size : Int) + 1)] W fun e w' => e = .returned (.int .i64 k) ∧ w' = W) := Lib.hid (fun W => by
    have h := below_any x (t.size + 1) W (by omega) (by omega)
    rw [hkx] at h
    exact h)
  have HD : Hid (∀ (v : ByteArray) W, v.size ≤ 2 → bareL (bl v) = [] → Calls Tryd.prog 7 #[.string ((t.extract 0 k ++ v) ++ t.extract k t.size)] W fun e w' => e = .returned (.tuple #[.string s, .int .i64 0]) ∧ Below W.heap.size W w') := Lib.hid (fun v W h1 h2 => dec_good W (by
      rw [ByteArray.size_append, ByteArray.size_append, ByteArray.size_extract, ByteArray.size_extract]
      omega) (by
      rw [bl_app, bl_app, bl_to, bl_from, bare_put _ _ _ h2, HT.out]))
  have hss := str_self s
  clear hkx HT
  cases b
  · have HD1 := Lib.hid (fun W => HD.out ⟨#[32, 10]⟩ W (by decide) (by decide))
    go_enter Tryd.func4, Tryd.ntmps4
    go_wp2_with fail
    refine HW.out.mono ?_
    rintro e w1 ⟨rfl, hb⟩
    have HB1 := Lib.hid hb
    clear hb
    go_wp2_with fail
    refine (HE.out _).mono ?_
    rintro e w2 ⟨rfl, hb⟩
    have HB2 := Lib.hid (bel HB1.out hb)
    clear hb
    go_wp2_with fail
    refine (HBL.out _).mono ?_
    rintro e w3 ⟨rfl, rfl⟩
    have HDK := Lib.hid (kept_call w3 HD1.out)
    go_wp2_with fail
    refine wp_region_kept (by kernel_rfl) (by kernel_rfl) ?_
    repeat (go_big_quiet_step ((first | (exact fun _ => rfl) | (intro hk; go_at_call 7; exact (HDK.out _ hk)))))
    refine wpQuiet_nil ?_
    intro w4 hk4
    have HB4 := Lib.hid (bel HB2.out hk4.below)
    clear hk4
    go_wp2_with fail
    refine (HP.out _).mono ?_
    rintro e w5 ⟨rfl, hb⟩
    have HB5 := Lib.hid (bel HB4.out hb)
    clear hb
    go_wp2_with fail
    refine (HQ.out _).mono ?_
    rintro e w6 ⟨rfl, hb⟩
    have HB6 := Lib.hid (bel HB5.out hb)
    clear hb
    go_wp2_with fail
    go_ret
    exact ⟨rfl, HB6.out⟩
  · have HD1 := Lib.hid (fun W => HD.out ⟨#[9]⟩ W (by decide) (by decide))
    go_enter Tryd.func4, Tryd.ntmps4
    go_wp2_with fail
    refine HW.out.mono ?_
    rintro e w1 ⟨rfl, hb⟩
    have HB1 := Lib.hid hb
    clear hb
    go_wp2_with fail
    refine (HE.out _).mono ?_
    rintro e w2 ⟨rfl, hb⟩
    have HB2 := Lib.hid (bel HB1.out hb)
    clear hb
    go_wp2_with fail
    refine (HBL.out _).mono ?_
    rintro e w3 ⟨rfl, rfl⟩
    have HDK := Lib.hid (kept_call w3 HD1.out)
    go_wp2_with fail
    refine wp_region_kept (by kernel_rfl) (by kernel_rfl) ?_
    repeat (go_big_quiet_step ((first | (exact fun _ => rfl) | (intro hk; go_at_call 7; exact (HDK.out _ hk)))))
    refine wpQuiet_nil ?_
    intro w4 hk4
    have HB4 := Lib.hid (bel HB2.out hk4.below)
    clear hk4
    go_wp2_with fail
    refine (HP.out _).mono ?_
    rintro e w5 ⟨rfl, hb⟩
    have HB5 := Lib.hid (bel HB4.out hb)
    clear hb
    go_wp2_with fail
    refine (HQ.out _).mono ?_
    rintro e w6 ⟨rfl, hb⟩
    have HB6 := Lib.hid (bel HB5.out hb)
    clear hb
    go_wp2_with fail
    go_ret
    exact ⟨rfl, HB6.out⟩

/-! B64Just. -/
def JsAt (s : ByteArray) (w : World) (o i : Value) (wr : World) : Prop :=
  ∃ (k : Nat) (t : ByteArray), k ≤ s.size ∧ i = .int .i64 k ∧ o = .string t ∧ t.size ≤ k ∧ Hid (bareL (bl s) = bl t ++ bareL ((bl s).drop k)) ∧ w = wr
set_option maxRecDepth 100000 in
set_option maxHeartbeats 2000000 in
theorem b64Just_any (s a b : ByteArray) (w : World) : Calls Tryd.prog 5 #[.string s, .string a, .string b] w (TrueP w) := by
  have HW := Lib.hid (works_any w)
  by_cases hs : 500 < s.size
  · have d : (500 : Int) < (s.size : Int) := by omega
    go_enter Tryd.func5, Tryd.ntmps5
    go_wp2_with fail
    refine HW.out.mono ?_
    rintro e w1 ⟨rfl, hb⟩
    have HB := Lib.hid hb
    clear hb
    go_wp2_with fail
    go_ret
    exact ⟨rfl, HB.out⟩
  have d : ¬ (500 : Int) < (s.size : Int) := by omega
  by_cases ha : 500 < a.size
  · have d2 : (500 : Int) < (a.size : Int) := by omega
    go_enter Tryd.func5, Tryd.ntmps5
    go_wp2_with fail
    refine HW.out.mono ?_
    rintro e w1 ⟨rfl, hb⟩
    have HB := Lib.hid hb
    clear hb
    go_wp2_with fail
    go_ret
    exact ⟨rfl, HB.out⟩
  have d2 : ¬ (500 : Int) < (a.size : Int) := by omega
  by_cases hb : 500 < b.size
  · have d3 : (500 : Int) < (b.size : Int) := by omega
    go_enter Tryd.func5, Tryd.ntmps5
    go_wp2_with fail
    refine HW.out.mono ?_
    rintro e w1 ⟨rfl, hb⟩
    have HB := Lib.hid hb
    clear hb
    go_wp2_with fail
    go_ret
    exact ⟨rfl, HB.out⟩
  have d3 : ¬ (500 : Int) < (b.size : Int) := by omega
  have HPA := Lib.hid (fun W => plain_any a W (by omega))
  have HPB := Lib.hid (fun W => plain_any b W (by omega))
  have hab : ((ba (plainL (bl a))).toList == (ba (plainL (bl b))).toList) = (a.toList == b.toList) := by
    rw [toList_bl, toList_bl, toList_bl, toList_bl, bl_ba, bl_ba, Bool.eq_iff_iff, beq_iff_eq, beq_iff_eq]
    exact ⟨plain_inj, fun h => by rw [h]⟩
  have HDC := Lib.hid (fun W => decode_any s W (by omega))
  have hxz : (ba (decV (bl s))).size ≤ 1000 := by
    rw [ba_size]
    have h1 := out_len (letL (bareL (bl s)))
    have h2 := let_len (bareL (bl s))
    have h3 := bare_len (bl s)
    rw [bl_len] at h3
    unfold decV readL
    split
    · omega
    · exact Nat.zero_le _
  have HPX := Lib.hid (fun W => plain_any (ba (decV (bl s))) W (by omega))
  rw [bl_ba] at HPX
  unfold DcPost decC at HDC
  have HI : ∀ w, Hid (JsAt s w (.string ⟨#[]⟩) (.int .i64 0) w) := fun w => Lib.hid ⟨0, ⟨#[]⟩, Nat.zero_le _, rfl, rfl, Nat.le_refl _, Lib.hid rfl, rfl⟩
  generalize ba (plainL (bl a)) = pa at *
  generalize ba (plainL (bl b)) = pb at *
  cases hds : decS (bl s)
  · have hx : decV (bl s) = [] := by unfold decV; rw [hds]; rfl
    rw [hds, hx] at HDC
    have HDC : Hid (∀ W, Calls Tryd.prog 7 #[.string s] W fun e w' => e = .returned (.tuple #[.string ⟨#[]⟩, .int .i64 3]) ∧ Below W.heap.size W w') := HDC
    clear HPX hx hds hxz
    cases hq : (a.toList == b.toList)
    all_goals
      rw [hq] at hab
      go_enter Tryd.func5, Tryd.ntmps5
      go_wp2_with fail
      refine HW.out.mono ?_
      rintro e w1 ⟨rfl, hb⟩
      have HB1 := Lib.hid hb
      clear hb
      go_wp2_with fail
      refine (HDC.out _).mono ?_
      rintro e w2 ⟨rfl, hb⟩
      have HB2 := Lib.hid (bel HB1.out hb)
      clear hb
      go_wp2_with fail
      go_loopw [9, 10, 33] (fun o _ i wr => JsAt s w2 o i wr) (fun _ _ i _ => s.size - (intOf i).toNat)
      case atStart => exact (HI w2).out
      case round =>
        clear HI HDC
        obtain ⟨k, t, hk, rfl, rfl, htz, HT, rfl⟩ := hrel
        by_cases hlt : k < s.size
        · have ht := HT.out
          rw [drop_cons s k hlt] at ht
          have hw := ws_int s[k]
          have hez : (s.extract k (k + 1)).size = 1 := by rw [ByteArray.size_extract]; omega
          have HO := Lib.hid (one_cut s k hlt)
          cases h1 : ((s[k].toNat : Int) != 32)
          · have HN : Hid (bareL (bl s) = bl t ++ bareL ((bl s).drop (k + 1))) := Lib.hid (by
              rw [h1] at hw
              rw [ht, bare_cons_out _ (by simpa using hw)])
            clear ht hw
            go_wp2
            go_roundw
            case rel => exact ⟨k + 1, t, by omega, by go_num, rfl, by omega, HN, rfl⟩
            case measure => simp [intOf]; omega
          cases h2 : ((s[k].toNat : Int) != 9)
          · have HN : Hid (bareL (bl s) = bl t ++ bareL ((bl s).drop (k + 1))) := Lib.hid (by
              rw [h1, h2] at hw
              rw [ht, bare_cons_out _ (by simpa using hw)])
            clear ht hw
            go_wp2
            go_roundw
            case rel => exact ⟨k + 1, t, by omega, by go_num, rfl, by omega, HN, rfl⟩
            case measure => simp [intOf]; omega
          cases h3 : ((s[k].toNat : Int) != 13)
          · have HN : Hid (bareL (bl s) = bl t ++ bareL ((bl s).drop (k + 1))) := Lib.hid (by
              rw [h1, h2, h3] at hw
              rw [ht, bare_cons_out _ (by simpa using hw)])
            clear ht hw
            go_wp2
            go_roundw
            case rel => exact ⟨k + 1, t, by omega, by go_num, rfl, by omega, HN, rfl⟩
            case measure => simp [intOf]; omega
          cases h4 : ((s[k].toNat : Int) != 10)
          · have HN : Hid (bareL (bl s) = bl t ++ bareL ((bl s).drop (k + 1))) := Lib.hid (by
              rw [h1, h2, h3, h4] at hw
              rw [ht, bare_cons_out _ (by simpa using hw)])
            clear ht hw
            go_wp2
            go_roundw
            case rel => exact ⟨k + 1, t, by omega, by go_num, rfl, by omega, HN, rfl⟩
            case measure => simp [intOf]; omega
          · have HN : Hid (bareL (bl s) = bl (t ++ s.extract k (k + 1)) ++ bareL ((bl s).drop (k + 1))) := Lib.hid (by
              rw [h1, h2, h3, h4] at hw
              rw [ht, bare_cons_in _ (by simpa using hw), bl_app, HO.out]
              simp)
            clear ht hw
            go_wp2
            go_roundw
            case rel => exact ⟨k + 1, _, by omega, by go_num, rfl, by rw [ByteArray.size_append, hez]; omega, HN, rfl⟩
            case measure => simp [intOf]; omega
        · clear HT
          go_wp2_with fail
          refine (HPA.out _).mono ?_
          rintro e w4 ⟨rfl, hb⟩
          have HB4 := Lib.hid (bel HB2.out hb)
          clear hb
          go_wp2_with fail
          refine (HPB.out _).mono ?_
          rintro e w5 ⟨rfl, hb⟩
          have HB5 := Lib.hid (bel HB4.out hb)
          clear hb
          go_wp2_with fail
          go_ret
          exact ⟨rfl, HB5.out⟩
  · rw [hds] at HDC
    have HDC : Hid (∀ W, Calls Tryd.prog 7 #[.string s] W fun e w' => e = .returned (.tuple #[.string (ba (decV (bl s))), .int .i64 0]) ∧ Below W.heap.size W w') := HDC
    rw [dec_plain hds] at HPX
    have HBB : Hid (bl (ba (bareL (bl s))) = bareL (bl s)) := Lib.hid (bl_ba _)
    clear hds
    generalize ba (decV (bl s)) = x at *
    generalize ba (bareL (bl s)) = bb at *
    cases hq : (a.toList == b.toList)
    all_goals
      rw [hq] at hab
      go_enter Tryd.func5, Tryd.ntmps5
      go_wp2_with fail
      refine HW.out.mono ?_
      rintro e w1 ⟨rfl, hb⟩
      have HB1 := Lib.hid hb
      clear hb
      go_wp2_with fail
      refine (HDC.out _).mono ?_
      rintro e w2 ⟨rfl, hb⟩
      have HB2 := Lib.hid (bel HB1.out hb)
      clear hb
      go_wp2_with fail
      go_loopw [9, 10, 33] (fun o _ i wr => JsAt s w2 o i wr) (fun _ _ i _ => s.size - (intOf i).toNat)
      case atStart => exact (HI w2).out
      case round =>
        clear HI HDC
        obtain ⟨k, t, hk, rfl, rfl, htz, HT, rfl⟩ := hrel
        by_cases hlt : k < s.size
        · have ht := HT.out
          rw [drop_cons s k hlt] at ht
          have hw := ws_int s[k]
          have hez : (s.extract k (k + 1)).size = 1 := by rw [ByteArray.size_extract]; omega
          have HO := Lib.hid (one_cut s k hlt)
          cases h1 : ((s[k].toNat : Int) != 32)
          · have HN : Hid (bareL (bl s) = bl t ++ bareL ((bl s).drop (k + 1))) := Lib.hid (by
              rw [h1] at hw
              rw [ht, bare_cons_out _ (by simpa using hw)])
            clear ht hw
            go_wp2
            go_roundw
            case rel => exact ⟨k + 1, t, by omega, by go_num, rfl, by omega, HN, rfl⟩
            case measure => simp [intOf]; omega
          cases h2 : ((s[k].toNat : Int) != 9)
          · have HN : Hid (bareL (bl s) = bl t ++ bareL ((bl s).drop (k + 1))) := Lib.hid (by
              rw [h1, h2] at hw
              rw [ht, bare_cons_out _ (by simpa using hw)])
            clear ht hw
            go_wp2
            go_roundw
            case rel => exact ⟨k + 1, t, by omega, by go_num, rfl, by omega, HN, rfl⟩
            case measure => simp [intOf]; omega
          cases h3 : ((s[k].toNat : Int) != 13)
          · have HN : Hid (bareL (bl s) = bl t ++ bareL ((bl s).drop (k + 1))) := Lib.hid (by
              rw [h1, h2, h3] at hw
              rw [ht, bare_cons_out _ (by simpa using hw)])
            clear ht hw
            go_wp2
            go_roundw
            case rel => exact ⟨k + 1, t, by omega, by go_num, rfl, by omega, HN, rfl⟩
            case measure => simp [intOf]; omega
          cases h4 : ((s[k].toNat : Int) != 10)
          · have HN : Hid (bareL (bl s) = bl t ++ bareL ((bl s).drop (k + 1))) := Lib.hid (by
              rw [h1, h2, h3, h4] at hw
              rw [ht, bare_cons_out _ (by simpa using hw)])
            clear ht hw
            go_wp2
            go_roundw
            case rel => exact ⟨k + 1, t, by omega, by go_num, rfl, by omega, HN, rfl⟩
            case measure => simp [intOf]; omega
          · have HN : Hid (bareL (bl s) = bl (t ++ s.extract k (k + 1)) ++ bareL ((bl s).drop (k + 1))) := Lib.hid (by
              rw [h1, h2, h3, h4] at hw
              rw [ht, bare_cons_in _ (by simpa using hw), bl_app, HO.out]
              simp)
            clear ht hw
            go_wp2
            go_roundw
            case rel => exact ⟨k + 1, _, by omega, by go_num, rfl, by rw [ByteArray.size_append, hez]; omega, HN, rfl⟩
            case measure => simp [intOf]; omega
        · obtain rfl : t = bb := bl_inj (by
            rw [HBB.out, HT.out, drop_end s k hlt]
            show _ = _ ++ []
            rw [List.append_nil])
          have htt := str_self t
          clear HT HBB
          go_wp2_with fail
          refine (HPX.out _).mono ?_
          rintro e w3 ⟨rfl, hb⟩
          have HB3 := Lib.hid (bel HB2.out hb)
          clear hb
          go_wp2_with fail
          refine (HPA.out _).mono ?_
          rintro e w4 ⟨rfl, hb⟩
          have HB4 := Lib.hid (bel HB3.out hb)
          clear hb
          go_wp2_with fail
          refine (HPB.out _).mono ?_
          rintro e w5 ⟨rfl, hb⟩
          have HB5 := Lib.hid (bel HB4.out hb)
          clear hb
          go_wp2_with fail
          go_ret
          exact ⟨rfl, HB5.out⟩
end Go.Proofs.YtlkfkgkolaaomaaDoor.B64
