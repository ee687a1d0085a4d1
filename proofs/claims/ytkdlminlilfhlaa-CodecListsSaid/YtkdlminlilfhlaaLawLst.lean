/-
  CodecLists' own body: it returns true.
-/
import Derived.Test.YtkdlminlilfhlaaLst
namespace Go.Proofs.Ytkdlminlilfhlaa
open Go Go.RowKit
theorem own_string_drop {w : World} {g cap m n c : Nat} {l : List UInt8} (h : OwnAt w g cap (l.map byt)) (hm : m + n = l.length) : (convert 27 9 (.slice (some ⟨g, m, none⟩) n c)).run Try.prog w = .ok (.string ⟨(l.drop m).toArray⟩) w := by
  rw [← strOf_byt]
  refine run_convert_bytes_arg w 27 5 Try.underlying27 (by kernel_rfl) g m n c ((l.drop m).map fun c => (c.toNat : Int)) (by simp; omega) (fun i hi => ?_) 9 Try.underlying9
  have hi' : m + i < l.length := by omega
  refine h.cells (m + i) _ ?_
  rw [List.getElem?_map, List.getElem?_eq_getElem hi']
  simp [byt, List.getD, List.getElem?_drop, List.getElem?_eq_getElem hi']
theorem own_at_later {w w' : World} {g cap : Nat} {xs : List Value} (h : OwnAt w g cap xs) (hb : Below w.heap.size w w') : OwnAt w' g cap xs :=
  h.keep hb.size (hb.block _ h.lt)
structure LI (q : F) (w wr : World) (vw vz : Value) (j m : Nat) (pre : List UInt8) : Prop where
  own : Own wr vw (pre.map byt)
  zer : OwnN 4 wr vz j (zc j)
  gw : ∀ k, vw.ownBlock = some k → w.heap.size ≤ k
  gz : ∀ k, vz.ownBlock = some k → w.heap.size ≤ k
  ne : ∀ k, vw.ownBlock = some k → vz.ownBlock ≠ some k
  enc : F.enc q = pre ++ F.enc (F.drop j q)
  m : pre.length = m
  wf : F.wf (F.drop j q) = true → F.wf q = true
  hb : Below w.heap.size w wr
theorem LI.start (q : F) {w wr : World} (hb : Below w.heap.size w wr) : LI q w wr (.slice none 0 0) (.slice none 0 0) 0 0 [] :=
  ⟨Own.nil _, OwnN.nil 4 _, fun k h => (by cases h), fun k h => (by cases h), fun k h => (by cases h), by simp [F.drop], rfl, fun h => (by simpa [F.drop] using h), hb⟩
/-- behind the round's calls -/
theorem LI.later {q : F} {w wr w' : World} {vw vz : Value} {j m : Nat} {pre : List UInt8} (h : LI q w wr vw vz j m pre) (hb : Below wr.heap.size wr w') : LI q w w' vw vz j m pre :=
  ⟨own_below h.own hb, h.zer.keep hb.size fun k hk => hb.block k (h.zer.lt hk), h.gw, h.gz, h.ne, h.enc, h.m, h.wf, h.hb.trans (hb.mono h.hb.size)⟩
/-- behind the append to the bytes: the zeros are where they were -/
theorem LI.bytes {q : F} {w wr w' : World} {vw vz vw' : Value} {j m : Nat} {pre : List UInt8} (h : LI q w wr vw vz j m pre) (hg : wr.grownBy w' vw.ownBlock) (hn : vw'.ownBlock = vw.ownBlock ∨ ∃ k, vw'.ownBlock = some k ∧ wr.heap.size ≤ k) :
    OwnN 4 w' vz j (zc j) ∧ (∀ k, vw'.ownBlock = some k → w.heap.size ≤ k) ∧ (∀ k, vw'.ownBlock = some k → vz.ownBlock ≠ some k) ∧ Below w.heap.size w w' := by
  obtain ⟨f1, f2⟩ := fin_own h.gw h.hb hg hn
  refine ⟨h.zer.keep hg.size fun k hk => hg.block k (h.zer.lt hk) fun e => h.ne k e.symm hk, f1, fun k hk e => ?_, f2⟩
  rcases hn with e1 | ⟨k', e1, e2⟩
  · exact h.ne k (by rw [← e1]; exact hk) e
  · rw [e1] at hk
    have := h.zer.lt e
    simp only [Option.some.injEq] at hk
    omega
theorem LI.next {q : F} {w wr w5 w6 w7 : World} {vw vz v5 v7 : Value} {j m : Nat} {pre en : List UInt8} {x : Obj} (h : LI q w wr vw vz j m pre) (he : F.enc (F.drop j q) = en ++ F.enc (F.drop (j + 1) q)) (hf : F.wf (F.drop (j + 1) q) = true → F.wf (F.drop j q) = true)
    (o5 : Own w5 v5 (pre.map byt ++ en.map byt)) (g5 : wr.grownBy w5 vw.ownBlock) (n5 : v5.ownBlock = vw.ownBlock ∨ ∃ k, v5.ownBlock = some k ∧ wr.heap.size ≤ k) (b6 : Below w5.heap.size w5 w6)
    (o7 : OwnN 4 w7 v7 (j + 1) (zc j ++ z4)) (g7 : (w6.alloc x).grownBy w7 vz.ownBlock) (n7 : v7.ownBlock = vz.ownBlock ∨ ∃ k, v7.ownBlock = some k ∧ (w6.alloc x).heap.size ≤ k) : LI q w w7 v5 v7 (j + 1) (m + en.length) (pre ++ en) := by
  obtain ⟨z5, gw5, ne5, hb5⟩ := h.bytes g5 n5
  have hb6 : Below w.heap.size w w6 := hb5.trans (b6.mono hb5.size)
  have o6 := own_below o5 b6
  obtain ⟨gz7, hb7⟩ := fin_own h.gz (hb6.alloc hb6.size x) g7 n7
  refine ⟨?_, by rw [← zc_snoc]; exact o7, gw5, gz7, fun k hk e => ?_, by rw [h.enc, he, List.append_assoc], by rw [List.length_append, h.m], fun e => h.wf (hf e), hb7⟩
  · rw [List.map_append]
    exact (o6.alloc x).keep g7.size fun k hk => g7.block k ((o6.alloc x).lt hk) fun e => ne5 k hk e.symm
  · rcases n7 with e1 | ⟨k', e1, e2⟩
    · exact ne5 k hk (by rw [← e1]; exact e)
    · rw [e1] at e
      have := (o6.alloc x).lt hk
      simp only [Option.some.injEq] at e
      omega
theorem own_string_zero {w : World} (g c : Nat) : (convert 27 9 (.slice (some ⟨g, 0, none⟩) 0 c)).run Try.prog w = .ok (.string ⟨([] : List UInt8).toArray⟩) w := by
  rw [← strOf_byt]
  exact run_convert_bytes_arg w 27 5 Try.underlying27 (by kernel_rfl) g 0 0 c [] rfl (fun i hi => by omega) 9 Try.underlying9
theorem zF_chk (j : Nat) : chkv 3 0 bnil (zF j) = 0 := by
  unfold chkv
  rw [if_pos (by simp [wfv, zF_wf]), if_neg (by simp [depv, zF_dep])]
theorem zF_szv (j : Nat) : szv 3 0 bnil (zF j) = 1 + nlen j + 2 * j := by
  show 1 + nlen (hdv 3 0 0 (zF j).len) + 0 + F.sz (zF j) = _
  rw [zF_len, zF_sz]
  rfl
theorem encb_list {q : F} (h : chkv 3 0 bnil q = 0) : ∃ hd : List UInt8, encb 3 0 bnil q = hd ++ F.enc q ∧ hd.length = 1 + nlen q.len := by
  refine ⟨3 :: num q.len, ?_, ?_⟩
  · unfold encb
    rw [if_pos h]
    show (3 :: (num q.len ++ ([] ++ F.enc q)) : List UInt8) = _
    simp
  · rw [List.length_cons, Nat.add_comm]
    rfl
theorem ownN_shape {sz n : Nat} {w : World} {v : Value} {xs : List Value} (h : OwnN sz w v n xs) : ∃ p c, v = .slice p n c := by
  rcases h with ⟨rfl, rfl, _⟩ | ⟨g, cap, rfl, _⟩
  · exact ⟨none, 0, rfl⟩
  · exact ⟨_, cap, rfl⟩
theorem okv_list : Okv 3 0 bnil := ⟨by unfold W64; omega, by unfold W64; omega, by simp⟩
set_option maxRecDepth 100000 in
set_option maxHeartbeats 4000000 in
theorem lists_at (q : F) (p : Option Addr) (c len : Nat) (w : World) (hq : q.len = len) (hSl : Sl w (.slice p len c) q) (hl : len ≤ 9223372036854775807)
    (h4 : len = 0 ∨ ∃ b o, p = some ⟨b, o, none⟩ ∧ b < w.heap.size ∧ Lies w q b o) (hsane : ∀ w : World, Calls Try.prog 10 #[] w (Ret (.bool true) w)) :
    Calls Try.prog 8 #[.slice p len c] w (Ret (.bool true) w) := by
  have HS := Lib.hid hsane
  have HSl := Lib.hid hSl
  have HQ := Lib.hid hq
  have H4 := Lib.hid h4
  clear hsane hSl hq h4
  obtain ⟨i0, hi, hz0, hz1, hz2⟩ := info_parts Try.info5
  obtain ⟨i1, hj, hy0, hy1, hy2⟩ := info_parts Try.info24
  go_enter Try.func8, Try.ntmps8
  go_wp2_with fail
  refine (HS.out _).mono ?_
  rintro e w1 ⟨rfl, hb1⟩
  go_wp2_with fail
  refine (few_if q _ _ (HSl.out.below hb1)).mono ?_
  rintro e w2 ⟨bb, rfl, hif, hb2⟩
  replace hb2 := hb1.trans (hb2.mono hb1.size)
  clear hb1
  cases bb
  · go_wp2_with fail
    go_ret
    exact ⟨rfl, hb2⟩
  · by_cases h20 : 20 < len
    · go_wp2_with fail
      go_ret
      exact ⟨rfl, hb2⟩
    · have hfew := hif rfl
      have HA := Lib.hid (all_and (few_all hfew) (all_imp (chk_list (q := q))))
      have hsq := few_sz hfew
      have hdq := few_dep hfew
      rw [HQ.out] at hsq
      have hszl : szv 3 0 bnil q ≤ 1099511627776 := by
        have := nlen_le (hdv 3 0 0 q.len)
        show 1 + nlen (hdv 3 0 0 q.len) + 0 + F.sz q ≤ 1099511627776
        omega
      have hdl : depv 3 (F.dep q) ≤ 1000 := by simp [depv]; omega
      have HSQ := Lib.hid hsq
      have HB := Lib.hid (And.intro hszl hdl)
      have hst := LI.start q hb2
      clear hsq hdq hszl hdl hfew hif
      go_wp2_with fail
      go_loopw [3, 4, 5, 31] (fun vw vz sz i wr => ∃ (j m : Nat) (pre : List UInt8), j ≤ len ∧ m ≤ 1644220 ∧ sz = .int .i64 m ∧ i = .int .i64 j ∧ Hid (LI q w wr vw vz j m pre)) (fun _ _ _ i _ => len - (intOf i).toNat)
      case atStart => exact ⟨0, 0, [], Nat.zero_le _, by omega, rfl, rfl, hst⟩
      case round =>
        obtain ⟨j, m, pre, hj0, hm, rfl, rfl, hI⟩ := hrel
        clear hst hb2
        by_cases hlt : j < len
        · rcases H4.out with e | ⟨b, o, e, hb0, h5⟩
          · exfalso
            omega
          subst e
          obtain ⟨k1, n1, s1, q1, L1, d0, d1, d2, d3, hs1, hL1, ⟨hfv, hck1⟩, hdr⟩ := h5.elt HA.out j (by rw [HQ.out]; exact hlt)
          have hbr := hI.out.hb
          have g0 := (hbr.cell (p := ⟨b, o + j * 4, none⟩) hb0).trans d0
          have g1 := (hbr.cell (p := ⟨b, o + j * 4 + 1, none⟩) hb0).trans d1
          have g2 := (hbr.cell (p := ⟨b, o + j * 4 + 2, none⟩) hb0).trans d2
          have g3 := (hbr.cell (p := ⟨b, o + j * 4 + 3, none⟩) hb0).trans d3
          have hL2 := hL1.below hbr
          have hd1 := hfv.depv k1
          have hz1 := hfv.szv k1 n1
          have c1 := fun x => enc_any k1 n1 s1 q1 L1 (wr.alloc x) hs1 (hL2.below (one_new wr x)) hd1 hz1
          have c2 := fun (w' : World) (hb' : Below wr.heap.size wr w') => size_any k1 n1 s1 q1 L1 w' hs1 (hL2.below hb') hd1 hz1
          rw [← encb_length] at c2
          obtain ⟨p1, c1', e, _⟩ := hL2.shape
          subst e
          have hne : chkv k1 n1 s1 q1 ≠ 0 → chkv 3 0 bnil q ≠ 0 := fun h e => h (hck1 e)
          have hen : chkv k1 n1 s1 q1 = 0 → F.enc (F.drop j q) = encb k1 n1 s1 q1 ++ F.enc (F.drop (j + 1) q) := fun h => by
            rw [hdr]
            unfold encb
            rw [if_pos h]
            rfl
          have hwf : chkv k1 n1 s1 q1 = 0 → F.wf (F.drop (j + 1) q) = true → F.wf (F.drop j q) = true := fun h h2 => by
            rw [hdr]
            simp only [F.wf, chk_wf h, h2, Bool.and_self]
          have hle : (encb k1 n1 s1 q1).length ≤ 1099511627776 := by
            have := encb_length k1 n1 s1 q1
            split at this <;> omega
          generalize encb k1 n1 s1 q1 = en at *
          generalize chkv k1 n1 s1 q1 = ck at *
          have C1 := Lib.hid c1
          have C2 := Lib.hid c2
          have HNE := Lib.hid hne
          have HEN := Lib.hid hen
          have HWF := Lib.hid hwf
          have HBR := Lib.hid hbr
          clear c1 c2 hne hen hwf d0 d1 d2 d3 hL1 hL2 hfv hck1 hdr hd1 hz1 hbr h5
          go_wp2_with fail
          refine (C1.out _).mono ?_
          rintro e w3 ⟨v3, rfl, hown3, hv3, hb3⟩
          obtain ⟨a0, a1, a2, a3⟩ := boxed (hb3.mono (by simp))
          have hb4 : Below wr.heap.size wr w3 := (one_new _ _).trans (hb3.mono (by simp))
          obtain ⟨p3, c3, e⟩ := own_shape hown3
          subst e
          have OWN3 := Lib.hid hown3
          clear hown3 hv3 hb3
          by_cases hck : ck = 0
          · subst hck
            have HEN2 := Lib.hid (HEN.out (by first | rfl | trivial))
            have HWF2 := Lib.hid (HWF.out (by first | rfl | trivial))
            clear HEN HWF HNE
            go_wp2_with fail
            refine (C2.out w3 hb4).mono ?_
            rintro e w4 ⟨rfl, hb5⟩
            have OWN4 := Lib.hid (own_below OWN3.out hb5)
            have hI4 := Lib.hid (hI.out.later (hb4.trans (hb5.mono hb4.size)))
            clear OWN3 hI hb4 hb5 a0 a1 a2 a3 g0 g1 g2 g3 C1 C2
            have hlen : pre.length + en.length ≤ 1644220 := by
              have e := congrArg List.length (hI4.out.enc.trans (congrArg (pre ++ ·) HEN2.out))
              have hs := HSQ.out
              rw [F.sz_enc, List.length_append, List.length_append] at e
              omega
            have hpm := hI4.out.m
            have hl8 : (pre.map byt).length + en.length ≤ 1644220 := by rw [List.length_map]; exact hlen
            have HL := Lib.hid hl8
            have hsrc := own_src OWN4.out
            have hown0 := hI4.out.own
            have HOWN := Lib.hid hown0
            clear hl8 hown0
            go_wp2_with (at_builtin; refine wpList_own rfl (.tmp 68) (.tmp 69) 27 27 rfl 5 i0 (.int .u8 0) 1 Try.underlying27 hi hz0 hz1 hz2 rfl u3 _ (pre.map byt) rfl HOWN.out en.length (en.map byt) rfl hsrc (by have := HL.out; unfold maxLen; omega) (by have := HL.out; omega) ?nexu)
            case nexu =>
              intro v5 w5 hown5 hgrow5 hnew5
              have O5 := Lib.hid hown5
              have G5 := Lib.hid hgrow5
              have N5 := Lib.hid hnew5
              have ZZ := Lib.hid (hI4.out.bytes hgrow5 hnew5).1
              clear hown5 hgrow5 hnew5 hsrc
              go_wp2_with fail
              refine (int_any 0 _).mono ?_
              rintro e w6 ⟨rfl, hb6⟩
              have hz6 := ZZ.out.keep hb6.size fun k hk => hb6.block k (ZZ.out.lt hk)
              have Z6 := Lib.hid hz6
              have B6 := Lib.hid hb6
              clear hz6 hb6
              go_wp2_with (at_builtin; refine wpList_ownN rfl (.tmp 71) (.tmp 73) 22 22 rfl 24 i1 _ 56 Try.underlying22 hj hy0 hy1 (by omega) hy2 rfl u4 _ (zc j) rfl (Z6.out.alloc _) 1 z4 rfl (src_four (heap_alloc_new _ _)) (by unfold maxLen; omega) (by omega) ?nexv)
              case nexv =>
                intro v7 w7 hown7 hgrow7 hnew7
                have hnx := hI4.out.next HEN2.out HWF2.out O5.out G5.out N5.out B6.out hown7 hgrow7 (by simpa using hnew7)
                have HNX := Lib.hid hnx
                clear hnx hown7 hgrow7 hnew7
                go_wp2_with fail
                go_roundw
                case rel => exact ⟨j + 1, m + en.length, pre ++ en, by omega, by omega, by go_num, by go_num, HNX.out⟩
                case measure => simp [intOf]; omega
          · have hbb := HB.out
            have hS := fun (w' : World) (hb' : Below w.heap.size w w') => enc_any 3 0 bnil q (.slice (some ⟨b, o, none⟩) len c) w' okv_list (HSl.out.below hb') hbb.2 hbb.1
            have hr := HNE.out hck
            generalize chkv 3 0 bnil q = r at *
            generalize encb 3 0 bnil q = enl at *
            have S := Lib.hid hS
            clear hS hbb
            go_wp2_with fail
            refine (C2.out w3 hb4).mono ?_
            rintro e w4 ⟨rfl, hb5⟩
            have hb6 := hI.out.hb.trans ((hb4.trans (hb5.mono hb4.size)).mono hI.out.hb.size)
            clear OWN3 hI hb4 hb5 a0 a1 a2 a3 g0 g1 g2 g3 C1 C2
            go_wp2_with fail
            refine (list_any _ _ _ _).mono ?_
            rintro e w5 ⟨rfl, hb7⟩
            replace hb7 := hb6.trans (hb7.mono hb6.size)
            go_wp2_with fail
            refine (S.out _ hb7).mono ?_
            rintro e w6 ⟨v6, rfl, _, _, hb8⟩
            replace hb8 := hb7.trans (hb8.mono hb7.size)
            go_wp2_with fail
            go_ret
            exact ⟨by simp [hr], hb8⟩
        · have hdn := drop_over q j (by rw [HQ.out]; omega)
          obtain rfl : j = len := by omega
          have hpre : F.enc q = pre := by
            rw [hI.out.enc, hdn]
            exact List.append_nil _
          have hwq : F.wf q = true := hI.out.wf (by rw [hdn]; rfl)
          have hbb := HB.out
          have hS := fun (w' : World) (hb' : Below w.heap.size w w') => enc_any 3 0 bnil q (.slice p j c) w' okv_list (HSl.out.below hb') hbb.2 hbb.1
          have hE : chkv 3 0 bnil q = 0 → ∃ hd : List UInt8, encb 3 0 bnil q = hd ++ pre ∧ hd.length = 1 + nlen j := fun h => by
            obtain ⟨hd, e1, e2⟩ := encb_list h
            exact ⟨hd, by rw [e1, hpre], by rw [e2, HQ.out]⟩
          have hr := chk_wf_list hwq
          obtain ⟨pz, cz, ez⟩ := ownN_shape hI.out.zer
          obtain ⟨pw, cw, ew⟩ := own_shape hI.out.own
          have hZ := fun (w' : World) (hb' : Below wr.heap.size wr w') => size_any 3 0 bnil (zF j) u4 w' okv_list (zF_sl (hI.out.later hb').zer) (by rw [zF_dep]; simp [depv]) (by rw [zF_szv]; have := nlen_le j; omega)
          rw [zF_chk, if_pos rfl, zF_szv] at hZ
          subst ez
          subst ew
          have hpm := hI.out.m
          have hnl := nlen_le j
          have hnp := nlen_pos j
          have hbr := hI.out.hb
          generalize nlen j = D0 at *
          generalize chkv 3 0 bnil q = r at *
          generalize encb 3 0 bnil q = enl at *
          rw [hpm] at *
          have S := Lib.hid hS
          have Z := Lib.hid hZ
          have E := Lib.hid hE
          have PM := Lib.hid hI.out.m
          have BR := Lib.hid hbr
          clear hS hZ hE hbb hdn hpre hwq hpm hbr
          go_wp2_with fail
          refine (list_any _ _ _ _).mono ?_
          rintro e w3 ⟨rfl, hb3⟩
          have hb4 := BR.out.trans (hb3.mono BR.out.size)
          go_wp2_with fail
          refine (S.out _ hb4).mono ?_
          rintro e w4 ⟨v4, rfl, hown4, _, hb5⟩
          have hb6 := hb3.trans (hb5.mono hb3.size)
          clear hb4 hb3 hb5
          rcases hr with rfl | rfl
          · obtain ⟨hd, ehd, hhd⟩ := E.out rfl
            subst ehd
            have hlen : (hd ++ pre).length = 1 + D0 + m := by rw [List.length_append, hhd, PM.out]
            have hdrop : (hd ++ pre).drop (1 + D0) = pre := by rw [← hhd]; exact List.drop_left
            rcases hown4 with ⟨_, hx⟩ | ⟨g, cap, rfl, hown4⟩
            · have := congrArg List.length hx
              rw [List.length_map, hlen] at this
              simp only [List.length_nil] at this
              omega
            have hcap : 1 + D0 + m ≤ cap := by rw [← hlen, ← List.length_map (f := byt)]; exact hown4.le
            rw [List.length_map, hlen]
            have HX := Lib.hid (And.intro hlen hdrop)
            have O4 := Lib.hid hown4
            clear hown4 hlen hdrop hhd E S
            go_wp2_with fail
            refine (list_any _ _ _ _).mono ?_
            rintro e w5 ⟨rfl, hb7⟩
            have hb8 := hb6.trans (hb7.mono hb6.size)
            have O5 := Lib.hid (own_at_later O4.out hb7)
            clear hb7 O4
            go_wp2_with fail
            refine (Z.out _ hb8).mono ?_
            rintro e w6 ⟨rfl, hb9⟩
            have O6 := Lib.hid (own_at_later O5.out hb9)
            have hb10 := hb8.trans (hb9.mono hb8.size)
            have W6 := Lib.hid (own_below hI.out.own hb10)
            have hb11 := BR.out.trans (hb10.mono BR.out.size)
            clear hb9 hb8 hb6 hb10 O5 Z BR hI
            have T1 := fun (x : Later w6) (c' : Nat) => own_string_drop (m := 1 + D0) (n := m) (c := c') (own_at_later O6.out x.b) HX.out.1.symm
            rw [HX.out.2] at T1
            have T2 := fun (x : Later w6) => own_string (own_below W6.out x.b)
            rw [PM.out] at T2
            have T3 := fun (x : Later w6) (c' : Nat) => own_string_zero (w := x.v) g c'
            have hsa : m = 0 → (⟨([] : List UInt8).toArray⟩ : ByteArray) = ⟨pre.toArray⟩ := fun h => by
              rw [List.eq_nil_of_length_eq_zero (PM.out.trans h)]
            generalize (⟨pre.toArray⟩ : ByteArray) = sp at *
            clear O6 W6 HX
            have hd2 : decide (2 ≤ 1 + (D0 : Int)) = true := decide_eq_true (by omega)
            by_cases hc : cap = 1 + D0
            · have h0 : m = 0 := by omega
              subst h0 hc
              have hsp := hsa rfl
              rw [hsp] at T3
              clear T1 hsa hsp
              go_wp2_with fail
              refine wp_region_later (by kernel_rfl) (by kernel_rfl) ?_
              repeat (go_big_quiet_step (fail))
              refine wpQuiet_nil ?_
              intro _ hw'
              obtain ⟨x, hx⟩ := hw'
              subst hx
              go_wp2_with fail
              go_ret
              exact ⟨rfl, hb11.trans (x.b.mono hb11.size)⟩
            · clear T3 hsa
              go_wp2_with fail
              refine wp_region_later (by kernel_rfl) (by kernel_rfl) ?_
              repeat (go_big_quiet_step (fail))
              refine wpQuiet_nil ?_
              intro _ hw'
              obtain ⟨x, hx⟩ := hw'
              subst hx
              go_wp2_with fail
              go_ret
              exact ⟨rfl, hb11.trans (x.b.mono hb11.size)⟩
          · clear hown4
            have hb7 := BR.out.trans (hb6.mono BR.out.size)
            go_wp2_with fail
            go_ret
            exact ⟨rfl, hb7⟩
end Go.Proofs.Ytkdlminlilfhlaa
