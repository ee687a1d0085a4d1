/-
  The reference's encoder: values.
-/
import Derived.Test.YtaahmfmelmjahaaRenc
import Derived.Test.YtaahmfmelmjahaaWv
namespace Go.Proofs.Ytaahmfmelmjahaa
open Go Go.RowKit
set_option maxRecDepth 100000 in
set_option maxHeartbeats 1000000 in
theorem re_int (n : Int) (s : ByteArray) (p : Option Addr) (len c : Nat) (w : World) (hn : W64 n) : Calls Try.prog 28 #[val 1 n s (.slice p len c)] w (RetO (1 :: num (uns n)) w) := by
  obtain ⟨i0, hi, hz0, hz1, hz2⟩ := info_parts Try.info5
  have hc := fun w' => runs_any n w' hn
  have hd := fun w' => rnum_ret (uns n) w' (uns_lt hn)
  have hl := nlen_le (uns n)
  unfold nlen at hl
  generalize uns n = u at *
  generalize num u = nm at *
  have HC := Lib.hid hc
  have HD := Lib.hid hd
  clear hc hd hn
  go_enter Try.func28, Try.ntmps28
  go_wp2_with fail
  refine (HC.out _).mono ?_
  rintro e w1 ⟨rfl, rfl⟩
  go_wp2_with fail
  refine (HD.out _).mono ?_
  rintro e w2 ⟨v2, rfl, hown2, hv2, hb2⟩
  have ho0 := own_one (w.alloc (.cells #[.int .i64 1, .int .i64 n, .string s, .slice p len c] 24)) (.int .u8 1) 5
  have ho1 := ho0.keep (w' := w2) hb2.size fun k hk => hb2.block k (ho0.lt hk)
  rw [show (w.alloc (.cells #[.int .i64 1, .int .i64 n, .string s, .slice p len c] 24)).heap.size = w.heap.size + 1 from by simp] at ho1
  have HO := Lib.hid ho1
  have hsrc := own_src hown2
  have hbw : Below w.heap.size w w2 := (two_new _ _ _).trans (hb2.mono (by simp; omega))
  clear ho0 ho1
  go_wp2_with (at_builtin; refine wpList_own rfl (.tmp 9) (.tmp 13) 27 27 rfl 5 i0 (.int .u8 0) 1 Try.underlying27 hi hz0 hz1 hz2 rfl _ v2 [.int .u8 1] rfl HO.out nm.length (nm.map byt) rfl hsrc (by simp only [List.length_singleton]; unfold maxLen; omega) (by simp only [List.length_singleton]; omega) ?next)
  case next =>
    intro v' w' hown hgrow hnew
    obtain ⟨k1, k2⟩ := fin_own (fun j hj => by simp only [Value.ownBlock, Option.some.injEq] at hj; omega) hbw hgrow hnew
    go_wp2
    go_ret
    exact ⟨v', rfl, by rw [List.map_cons]; exact hown, k1, k2⟩
def ReOK (k n : Int) (s : ByteArray) (q : F) : Prop := ∀ (L : Value) (w : World), Okv k n s → Sl w L q → wfv k n s.size q.len (F.wf q) = true → szv k n s q ≤ 1099511627776 → Calls Try.prog 28 #[val k n s L] w (RetO (encv k n s q) w)
set_option maxRecDepth 100000 in
set_option maxHeartbeats 1000000 in
theorem re_list (n : Int) (s : ByteArray) (q : F) (p : Option Addr) (len c : Nat) (w : World) (hlen : len ≤ 9223372036854775807) (hq : Hid (q.len = len)) (hall : q.All ReOK) (h4 : Hid (len = 0 ∨ ∃ b' o, p = some ⟨b', o, none⟩ ∧ b' < w.heap.size ∧ Lies w q b' o))
    (hwf : Hid (F.wf q = true)) (hz : Hid (F.sz q ≤ 1099511627776)) : Calls Try.prog 28 #[val 3 n s (.slice p len c)] w (RetO (3 :: (num len ++ F.enc q)) w) := by
  obtain ⟨i0, hi, hz0, hz1, hz2⟩ := info_parts Try.info5
  have hd := fun w' => rnum_ret len w' (by unfold U64; omega)
  have hl := nlen_le len
  unfold nlen at hl
  generalize num len = nm at *
  have HD := Lib.hid hd
  clear hd
  go_enter Try.func28, Try.ntmps28
  go_wp2_with fail
  refine (HD.out _).mono ?_
  rintro e w2 ⟨v2, rfl, hown2, hv2, hb2⟩
  have hbox : Below (w.heap.size + 1) (w.alloc (.cells #[.int .i64 3, .int .i64 n, .string s, .slice p len c] 24)) w2 := ((Below.refl _ _).alloc (by simp) _).trans (hb2.mono (by simp))
  have ho0 := own_one (w.alloc (.cells #[.int .i64 3, .int .i64 n, .string s, .slice p len c] 24)) (.int .u8 3) 5
  have ho1 := ho0.keep (w' := w2) hb2.size fun k hk => hb2.block k (ho0.lt hk)
  rw [show (w.alloc (.cells #[.int .i64 3, .int .i64 n, .string s, .slice p len c] 24)).heap.size = w.heap.size + 1 from by simp] at ho1
  have HO := Lib.hid ho1
  have hsrc := own_src hown2
  have hbw : Below w.heap.size w w2 := (one_new _ _).trans (hbox.mono (by omega))
  have hw2 : w.heap.size + 2 ≤ w2.heap.size := by have := hb2.size; simp at this; omega
  clear ho0 ho1
  go_wp2_with (at_builtin; refine wpList_own rfl (.tmp 27) (.tmp 32) 27 27 rfl 5 i0 (.int .u8 0) 1 Try.underlying27 hi hz0 hz1 hz2 rfl _ v2 [.int .u8 3] rfl HO.out nm.length (nm.map byt) rfl hsrc (by simp only [List.length_singleton]; unfold maxLen; omega) (by simp only [List.length_singleton]; omega) ?next)
  case next =>
    intro v3 w3 hown3 hgrow3 hnew3
    have hbox3 : Below (w.heap.size + 1) (w.alloc (.cells #[.int .i64 3, .int .i64 n, .string s, .slice p len c] 24)) w3 := hbox.grown hgrow3 (by omega) fun k hk => by simp only [Value.ownBlock, Option.some.injEq] at hk; omega
    have hv3 : ∀ j, v3.ownBlock = some j → w.heap.size + 1 ≤ j := fun j hj => by
      rcases hnew3 with e | ⟨k, e, hk⟩
      · rw [e] at hj
        simp only [Value.ownBlock, Option.some.injEq] at hj
        omega
      · rw [e] at hj
        simp only [Option.some.injEq] at hj
        omega
    have hst : Own w3 v3 ((3 :: nm ++ []).map byt) := by rw [List.append_nil]; exact hown3
    clear hbox hbw hgrow3 hnew3 hown3 hsrc HO hb2 hown2 hv2 HD
    go_wp2_with fail
    go_loopw [3, 4] (fun x i wr => ∃ (j : Nat) (pre : List UInt8), j ≤ len ∧ i = .int .i64 j ∧ Own wr x ((3 :: nm ++ pre).map byt) ∧ (∀ k, x.ownBlock = some k → w.heap.size + 1 ≤ k) ∧ Hid (F.enc q = pre ++ F.enc (F.drop j q)) ∧
      Below (w.heap.size + 1) (w.alloc (.cells #[.int .i64 3, .int .i64 n, .string s, .slice p len c] 24)) wr) (fun _ i _ => len - (intOf i).toNat)
    case atStart => exact ⟨0, [], Nat.zero_le _, rfl, hst, hv3, rfl, hbox3⟩
    case round =>
      obtain ⟨j, pre, hj, rfl, hown, hvx, hsame, hb⟩ := hrel
      clear hst hv3 hbox3
      obtain ⟨c0, c1, c2, c3⟩ := boxed hb
      have hb2 : Below w.heap.size w wr := (one_new _ _).trans (hb.mono (by simp))
      by_cases hlt : j < len
      · rcases h4.out with e | ⟨b', o, e, hb', h5⟩
        · exfalso
          omega
        subst e
        obtain ⟨k1, n1, s1, q1, L1, d0, d1, d2, d3, hs1, hL1, hp1, hd1⟩ := h5.elt hall j (by rw [hq.out]; exact hlt)
        have hwf1 := F.wf_elt hwf.out hd1
        have hE := enc_drop hsame.out hd1
        have hle : pre.length + szv k1 n1 s1 q1 ≤ F.sz q := by
          have e := congrArg List.length hE
          rw [List.length_append, List.length_append, encv_length, F.sz_enc] at e
          omega
        have hzq := hz.out
        have hle2 : (3 :: nm ++ pre).length + szv k1 n1 s1 q1 ≤ 1099511627799 := by rw [List.length_append, List.length_cons]; omega
        have hle3 : szv k1 n1 s1 q1 ≤ 1099511627776 ∨ 1099511627776 < szv k1 n1 s1 q1 := by omega
        have hE2 := Lib.hid hE
        have g0 := (hb2.cell (p := ⟨b', o + j * 4, none⟩) hb').trans d0
        have g1 := (hb2.cell (p := ⟨b', o + j * 4 + 1, none⟩) hb').trans d1
        have g2 := (hb2.cell (p := ⟨b', o + j * 4 + 2, none⟩) hb').trans d2
        have g3 := (hb2.cell (p := ⟨b', o + j * 4 + 3, none⟩) hb').trans d3
        have hc := hp1 L1 wr hs1 (hL1.below hb2) hwf1 (by omega)
        have hel := encv_length k1 n1 s1 q1
        generalize encv k1 n1 s1 q1 = en at *
        have hle4 : ((3 :: nm ++ pre).map byt).length + en.length ≤ 1099511627799 := by rw [List.length_map]; omega
        have HL := Lib.hid hle4
        have hzr := hb.size
        simp at hzr
        clear d0 d1 d2 d3 hd1 hL1 hsame hE hp1 hle hle2 hle3 hle4 hel hzq
        go_wp2_with fail
        refine hc.mono ?_
        rintro e w4 ⟨v4, rfl, hown4, hv4, hb4⟩
        have hk := hown.keep (w' := w4) hb4.size fun k hk => hb4.block k (hown.lt hk)
        have HK := Lib.hid hk
        have hsrc := own_src hown4
        have hb5 : Below (w.heap.size + 1) (w.alloc (.cells #[.int .i64 3, .int .i64 n, .string s, .slice (some ⟨b', o, none⟩) len c] 24)) w4 := hb.trans (hb4.mono (by omega))
        have hsz4 := hb4.size
        clear hk hown hc
        go_wp2_with (at_builtin; refine wpList_own rfl (.tmp 41) (.tmp 47) 27 27 rfl 5 i0 (.int .u8 0) 1 Try.underlying27 hi hz0 hz1 hz2 rfl u3 v4 ((3 :: nm ++ pre).map byt) rfl HK.out en.length (en.map byt) rfl hsrc (by have := HL.out; unfold maxLen; omega) (by have := HL.out; omega) ?nexu)
        case nexu =>
          intro v5 w5 hown5 hgrow5 hnew5
          have hv5 : ∀ k, v5.ownBlock = some k → w.heap.size + 1 ≤ k := fun k hk => by
            rcases hnew5 with e | ⟨k', e, hk'⟩
            · exact hvx k (by rw [← e]; exact hk)
            · rw [e] at hk
              simp only [Option.some.injEq] at hk
              omega
          have hb6 := hb5.grown hgrow5 (by omega) fun k hk => hvx k hk
          have hown6 : Own w5 v5 ((3 :: nm ++ (pre ++ en)).map byt) := by rw [← List.append_assoc, List.map_append]; simpa using hown5
          clear hown5 hgrow5 hnew5
          go_wp2_with fail
          go_roundw
          case rel => exact ⟨j + 1, pre ++ en, by omega, by go_num, hown6, hv5, hE2, hb6⟩
          case measure => simp [intOf]; omega
      · have hfin : F.enc q = pre := by rw [hsame.out, drop_over q j (by rw [hq.out]; omega)]; exact List.append_nil _
        have HF := Lib.hid hfin
        clear hfin
        go_wp2_with fail
        go_ret
        exact ⟨u3, rfl, by rw [HF.out]; exact hown, fun k hk => by have := hvx k hk; omega, hb2⟩
end Go.Proofs.Ytaahmfmelmjahaa
