/-
  CodecRoundTrip's own body: it returns true.
-/
import Derived.Test.YtaahmfmelmjahaaLawDiff
import Derived.Test.YtaahmfmelmjahaaDcz
namespace Go.Proofs.Ytaahmfmelmjahaa
open Go Go.RowKit
theorem BArg.below {w w' : World} {b : Nat} {p : Option Addr} {l : List UInt8} (h : BArg w b p l) (hb : Below w.heap.size w w') : BArg w' b p l := by
  rcases h with h | ⟨o, e, c2, c3⟩
  · exact .inl h
  · exact .inr ⟨o, e, Nat.lt_of_lt_of_le c2 hb.size, fun j c hj => (hb.cell (p := ⟨b, o + j, none⟩) c2).trans (c3 j c hj)⟩
theorem barg_string {w : World} {b N cap : Nat} {p : Option Addr} {l : List UInt8} (h : BArg w b p l) (hN : l.length = N) : (convert 27 9 (.slice p N cap)).run Try.prog w = .ok (.string ⟨l.toArray⟩) w := by
  subst hN
  rcases h with rfl | ⟨o, rfl, c2, c3⟩
  · change (convert 27 9 (.slice p 0 cap)).run Try.prog w = _
    rw [run_convert_bytes_string w 27 9 5 p 0 cap Try.underlying27 (by kernel_rfl) Try.underlying9]
    cases p
    · simp [Conv.bytesToString]
      rfl
    · have hl : ∀ a : Addr, (loadCells a 0).run Try.prog w = .ok #[] w := fun a => by
        have := run_loadCells_list (P := Try.prog) w a [] (fun j v hj => by simp at hj)
        simpa using this
      simp [Conv.bytesToString, hl]
      rfl
  · rw [← strOf_byt]
    refine run_convert_bytes_arg w 27 5 Try.underlying27 (by kernel_rfl) b o l.length cap (l.map fun c => (c.toNat : Int)) (by simp) (fun i hi => ?_) 9 Try.underlying9
    rw [c3 i _ (List.getElem?_eq_getElem hi)]
    simp [byt, List.getD, List.getElem?_eq_getElem hi]
theorem own_barg {w : World} {v : Value} {l : List UInt8} (h : Own w v (l.map byt)) (hl : l.length ≤ 1099511627776) : ∃ b p cap, v = .slice p l.length cap ∧ l.length ≤ cap ∧ cap ≤ 9223372036854775807 ∧ BArg w b p l := by
  rcases h with ⟨rfl, hx⟩ | ⟨g, cap, rfl, h⟩
  · obtain rfl := List.map_eq_nil_iff.1 hx
    exact ⟨0, none, 0, rfl, by simp, by simp, .inl rfl⟩
  · have h1 := h.le
    have h2 := h.mx
    unfold maxLen at h2
    rw [List.length_map] at h1 ⊢
    refine ⟨g, _, cap, rfl, h1, by omega, .inr ⟨0, rfl, h.lt, fun j c hj => ?_⟩⟩
    rw [Nat.zero_add]
    exact h.cells j _ (by rw [List.getElem?_map, hj]; rfl)
theorem dec_enc {k n : Int} {s : ByteArray} {q : F} (h : chkv k n s q = 0) (o : Okv k n s) (oq : F.ok q) (z : q.len ≤ 9223372036854775807) : dec (encb k n s q) = some ⟨k, n, s, q, []⟩ := by
  have hs := o.2.2
  unfold maxLen at hs
  have hd : depv k (F.dep q) ≤ 16 := by
    have h1 := chk_wf h
    unfold chkv at h
    rw [if_pos h1] at h
    split at h
    · cases h
    · omega
  have := decv_back k n s q 16 [] (chk_wf h) hd o.2.1 (by omega) z oq
  unfold dec encb
  rw [if_pos h]
  rw [List.append_nil] at this
  rw [show encv k n s q = enc1 k n s q from rfl, this]
  rfl
theorem dec_some {l : List UInt8} {x : Got} (hl : l.length ≤ 2000) (h : dec l = some x) : chkv x.k x.n x.s x.q = 0 ∧ encb x.k x.n x.s x.q = l ∧ depv x.k (F.dep x.q) ≤ 1000 ∧ szv x.k x.n x.s x.q ≤ 1099511627776 := by
  unfold dec at h
  split at h
  · rename_i y hy
    split at h
    · rename_i hr
      cases h
      have ho := decv_only 16 l x (by omega) hy
      have hc : chkv x.k x.n x.s x.q = 0 := by
        unfold chkv
        rw [if_pos ho.wf, if_neg (by have := ho.dep; omega)]
      have he : encb x.k x.n x.s x.q = l := by
        unfold encb
        rw [if_pos hc, ho.enc, List.length_eq_zero_iff.1 hr, List.append_nil]
        rfl
      refine ⟨hc, he, by have := ho.dep; omega, ?_⟩
      have := encb_length x.k x.n x.s x.q
      rw [if_pos hc, he] at this
      omega
    · cases h
  · cases h
theorem ok_zero : Okv 0 0 ⟨#[]⟩ := ⟨by unfold W64; omega, by unfold W64; omega, Nat.zero_le _⟩
theorem eqv_refl (k n : Int) (s : ByteArray) (q : F) : eqv k n s q k n s q = true := by simp [eqv, F.same_refl]
set_option maxHeartbeats 4000000 in
theorem lawRt (k n : Int) (s : ByteArray) (q : F) (L : Value) (b N cap : Nat) (p : Option Addr) (l : List UInt8) (w : World) (hs : Okv k n s) (hL : Sl w L q) (hN : l.length = N) (hc : N ≤ cap) (hm : cap ≤ 9223372036854775807) (hb : BArg w b p l)
    (hsane : ∀ w : World, Calls Try.prog 10 #[] w (Ret (.bool true) w)) :
    Calls Try.prog 6 #[val k n s L, .slice p N cap] w (Ret (.bool true) w) := by
  have HS := Lib.hid hsane
  have HB := Lib.hid hb
  have HN := Lib.hid hN
  clear hsane hb
  obtain ⟨pL, cL, e, hq⟩ := hL.shape
  have HQ := Lib.hid hq
  have OQ := Lib.hid hL.ok
  subst e
  go_enter Try.func6, Try.ntmps6
  go_wp2_with fail
  refine (HS.out _).mono ?_
  rintro e w1 ⟨rfl, hb1⟩
  obtain ⟨a0, a1, a2, a3⟩ := boxed (hb1.mono (by simp))
  have hz : w.heap.size + 1 ≤ w1.heap.size := by have := hb1.size; simp at this; omega
  have hb2 : Below w.heap.size w w1 := (one_new _ _).trans (hb1.mono (by simp))
  clear hb1
  have hL1 := hL.below hb2
  clear hL
  go_wp2_with fail
  refine (few_if _ _ _ (one_lie hs hL1)).mono ?_
  rintro e w2 ⟨bb, rfl, hif, hb3⟩
  have hb4 : Below w1.heap.size w1 w2 := ((Below.refl _ _).alloc (Nat.le_refl _) _).trans (hb3.mono (by simp))
  have hL2 := hL1.below hb4
  have hb5 := hb2.trans (hb4.mono (by omega))
  have hz2 : w.heap.size + 1 ≤ w2.heap.size := Nat.le_trans hz hb4.size
  have A0 := Later.cell (w := w2) (by omega) ((hb4.cell (p := ⟨w.heap.size, 0, none⟩) (by simp; omega)).trans a0)
  have A1 := Later.cell (w := w2) (by omega) ((hb4.cell (p := ⟨w.heap.size, 1, none⟩) (by simp; omega)).trans a1)
  have A2 := Later.cell (w := w2) (by omega) ((hb4.cell (p := ⟨w.heap.size, 2, none⟩) (by simp; omega)).trans a2)
  have A3 := Later.cell (w := w2) (by omega) ((hb4.cell (p := ⟨w.heap.size, 3, none⟩) (by simp; omega)).trans a3)
  have HL := fun x : Later w2 => hL2.below x.b
  clear a0 a1 a2 a3 hL1 hb3 hb4 hb2
  cases bb
  · go_wp2_with fail
    go_ret
    exact ⟨rfl, hb5⟩
  · have hf : FewV s q := (hif rfl).1
    have hd := hf.depv k
    have hsz := hf.szv k n
    by_cases hN2 : N ≤ 2000
    · have c1 := fun x : Later w2 => enc_any k n s q _ x.v hs (HL x) hd hsz
      have c2 := fun x : Later w2 => chk_any k n s q _ x.v hs (HL x) hd
      have c3 := fun (x : Later w2) (L' : Value) (h : Sl x.v L' q) => csame_any k n s q k n s q _ _ x.v hs hs (HL x) h
      have c4 := fun (x : Later w2) (L' : Value) (h : Sl x.v L' q) => rsame_any k n s q k n s q _ _ x.v hs hs (HL x) h
      have c5 := fun x : Later w2 => dec_all b N cap p l x.v HN.out hc hm ((HB.out.below hb5).below x.b) (by rw [HN.out]; omega)
      have c6 := fun x : Later w2 => barg_string (cap := cap) ((HB.out.below hb5).below x.b) HN.out
      have c7 := fun (h : chkv k n s q = 0) => dec_enc h hs OQ.out HQ.out
      have le1 : (encb k n s q).length ≤ 1099511627776 := by
        have := encb_length k n s q
        split at this <;> omega
      have hne : (if chkv k n s q = 0 then 0 < (encb k n s q).length else True) := by
        split
        · rename_i h
          exact encb_pos h
        · trivial
      have hck : chkv k n s q = 0 ∨ chkv k n s q ≠ 0 := Classical.em _
      rw [eqv_refl] at c3 c4
      have dl : l.length ≤ 2000 := by rw [HN.out]; exact hN2
      have hs' := hs
      generalize encb k n s q = en at *
      generalize chkv k n s q = ck at *
      have C1 := Lib.hid c1
      have C2 := Lib.hid c2
      have C3 := Lib.hid c3
      have C4 := Lib.hid c4
      have C5 := Lib.hid c5
      have C6 := Lib.hid c6
      have C7 := Lib.hid c7
      clear c1 c2 c3 c4 c5 c6 c7 hL2 hif hf hd hsz HL hs hs'
      have d0 := A0 ⟨w2, Below.refl _ _⟩
      have d1 := A1 ⟨w2, Below.refl _ _⟩
      have d2 := A2 ⟨w2, Below.refl _ _⟩
      have d3 := A3 ⟨w2, Below.refl _ _⟩
      go_wp2_with fail
      refine (C1.out ⟨w2, Below.refl _ _⟩).mono ?_
      rintro e w3 ⟨v3, rfl, hown3, hv3, hb6⟩
      have OWN3 := Lib.hid hown3
      clear hown3 hv3 d0 d1 d2 d3
      have d0 := A0 ⟨w3, hb6⟩
      have d1 := A1 ⟨w3, hb6⟩
      have d2 := A2 ⟨w3, hb6⟩
      have d3 := A3 ⟨w3, hb6⟩
      go_wp2_with fail
      refine (C2.out ⟨w3, hb6⟩).mono ?_
      rintro e wX ⟨rfl, hb7⟩
      have OWN4 := Lib.hid (own_below OWN3.out hb7)
      replace hb7 := hb6.trans (hb7.mono hb6.size)
      clear hb6 OWN3 d0 d1 d2 d3
      rcases hck with rfl | hck
      · obtain ⟨b3, p3, cap3, e3, m3, m4, B3⟩ := own_barg OWN4.out le1
        subst e3
        have D3 := dec_all b3 en.length cap3 p3 en wX rfl m3 m4 B3 le1
        unfold DecA at D3
        rw [C7.out rfl] at D3
        have D3 := Lib.hid D3
        clear B3 OWN4 C7
        generalize en.length = len3 at *
        go_wp2_with fail
        refine D3.out.mono ?_
        rintro e w5 ⟨L5, rfl, ho5, hs5, hb8⟩
        replace hb8 := hb7.trans (hb8.mono hb7.size)
        have d0 := fun o => A0 ⟨w5.alloc o, hb8.alloc hb8.size o⟩
        have d1 := fun o => A1 ⟨w5.alloc o, hb8.alloc hb8.size o⟩
        have d2 := fun o => A2 ⟨w5.alloc o, hb8.alloc hb8.size o⟩
        have d3 := fun o => A3 ⟨w5.alloc o, hb8.alloc hb8.size o⟩
        obtain ⟨p5, c5, e5, _⟩ := hs5.shape
        subst e5
        have hz5 := Nat.le_trans hz2 hb8.size
        go_wp2_with fail
        have hb9 := hb8.alloc hb8.size (Obj.cells #[.int .i64 k, .int .i64 n, .string s, .slice p5 q.len c5] 24)
        have hs6 := hs5.below ((Below.refl _ _).alloc (Nat.le_refl _) (Obj.cells #[.int .i64 k, .int .i64 n, .string s, .slice p5 q.len c5] 24))
        refine (C3.out ⟨_, hb9⟩ _ hs6).mono ?_
        rintro e w6 ⟨rfl, hb10⟩
        obtain ⟨e0, e1, e2, e3⟩ := boxed (hb10.mono (by simp))
        have hs7 := hs6.below hb10
        replace hb10 := hb9.trans (hb10.mono hb9.size)
        clear d0 d1 d2 d3 hs5 hs6
        have d0 := A0 ⟨w6, hb10⟩
        have d1 := A1 ⟨w6, hb10⟩
        have d2 := A2 ⟨w6, hb10⟩
        have d3 := A3 ⟨w6, hb10⟩
        go_wp2_with fail
        refine (C4.out ⟨_, hb10⟩ _ hs7).mono ?_
        rintro e wX ⟨rfl, hb11⟩
        have hbX := hb10.trans (hb11.mono hb10.size)
        clear d0 d1 d2 d3 e0 e1 e2 e3 hs7 hb10 hb11 hb9 hb8 hb7
        go_wp2_with fail
        refine (C5.out ⟨_, hbX⟩).mono ?_
        rcases hdl : dec l with _ | x
        · simp only [DecA, hdl]
          rintro e w7 ⟨rfl, hb12⟩
          have hbY := hbX.trans (hb12.mono hbX.size)
          have CZ := csame_any 0 0 ⟨#[]⟩ .nil 0 0 ⟨#[]⟩ .nil (.slice none 0 0) (.slice none 0 0) (w7.alloc (.cells #[.int .i64 0, .int .i64 0, .string ⟨#[]⟩, .slice none 0 0] 24)) ok_zero ok_zero (sl_nil _) (sl_nil _)
          rw [eqv_refl] at CZ
          have CZ := Lib.hid CZ
          clear C1 C2 C3 C4 C5 C6 A0 A1 A2 A3
          go_wp2_with fail
          refine CZ.out.mono ?_
          rintro e w8 ⟨rfl, hb13⟩
          have hbZ := (hbY.alloc hbY.size _).trans (hb13.mono (hbY.alloc hbY.size _).size)
          go_wp2_with fail
          go_ret
          exact ⟨rfl, hb5.trans (hbZ.mono (by omega))⟩
        · obtain ⟨g1, g2, g3, g4⟩ := dec_some dl hdl
          simp only [DecA, hdl]
          rintro e w7 ⟨L7, rfl, ho7, hs7, hb12⟩
          have hbY := hbX.trans (hb12.mono hbX.size)
          obtain ⟨p7, c7, e7, _⟩ := hs7.shape
          subst e7
          have hw : Below w7.heap.size w7 (w7.alloc _) := (Below.refl _ w7).alloc (Nat.le_refl _) (Obj.cells #[.int .i64 x.k, .int .i64 x.n, .string x.s, .slice p7 x.q.len c7] 24)
          have E1 := enc_any x.k x.n x.s x.q _ _ ho7 (hs7.below hw) g3 g4
          have E2 := fun y : Later (w7.alloc (.cells #[.int .i64 x.k, .int .i64 x.n, .string x.s, .slice p7 x.q.len c7] 24)) => chk_any x.k x.n x.s x.q _ y.v ho7 ((hs7.below hw).below y.b) g3
          rw [g1, g2] at E1
          rw [g1] at E2
          have E1 := Lib.hid E1
          have E2 := Lib.hid E2
          clear C1 C2 C3 C4 C5 g1 g2 g3 g4 hs7 hdl ho7 A0 A1 A2 A3
          generalize x.k = xk at *
          generalize x.n = xn at *
          generalize x.s = xs at *
          generalize x.q.len = xl at *
          go_wp2_with fail
          refine E1.out.mono ?_
          rintro e w8 ⟨v8, rfl, hown8, _, hb13⟩
          obtain ⟨e0, e1, e2, e3⟩ := boxed (hb13.mono (by simp))
          have hbZ := (hbY.alloc hbY.size _).trans (hb13.mono (hbY.alloc hbY.size _).size)
          have s8 := own_string hown8
          have s9 := C6.out ⟨w8, hbZ⟩
          have E3 := Lib.hid (E2.out ⟨w8, hb13⟩)
          clear E1 E2 hown8
          go_wp2_with fail
          refine E3.out.mono ?_
          rintro e w9 ⟨rfl, hb14⟩
          have hbW := hbZ.trans (hb14.mono hbZ.size)
          go_wp2_with fail
          go_ret
          exact ⟨rfl, hb5.trans (hbW.mono (by omega))⟩
      · have hbX := hb7
        clear OWN4 C7 hb7
        go_wp2_with fail
        refine (C5.out ⟨_, hbX⟩).mono ?_
        rcases hdl : dec l with _ | x
        · simp only [DecA, hdl]
          rintro e w7 ⟨rfl, hb12⟩
          have hbY := hbX.trans (hb12.mono hbX.size)
          have CZ := csame_any 0 0 ⟨#[]⟩ .nil 0 0 ⟨#[]⟩ .nil (.slice none 0 0) (.slice none 0 0) (w7.alloc (.cells #[.int .i64 0, .int .i64 0, .string ⟨#[]⟩, .slice none 0 0] 24)) ok_zero ok_zero (sl_nil _) (sl_nil _)
          rw [eqv_refl] at CZ
          have CZ := Lib.hid CZ
          clear C1 C2 C3 C4 C5 C6 A0 A1 A2 A3
          go_wp2_with fail
          refine CZ.out.mono ?_
          rintro e w8 ⟨rfl, hb13⟩
          have hbZ := (hbY.alloc hbY.size _).trans (hb13.mono (hbY.alloc hbY.size _).size)
          go_wp2_with fail
          go_ret
          exact ⟨rfl, hb5.trans (hbZ.mono (by omega))⟩
        · obtain ⟨g1, g2, g3, g4⟩ := dec_some dl hdl
          simp only [DecA, hdl]
          rintro e w7 ⟨L7, rfl, ho7, hs7, hb12⟩
          have hbY := hbX.trans (hb12.mono hbX.size)
          obtain ⟨p7, c7, e7, _⟩ := hs7.shape
          subst e7
          have hw : Below w7.heap.size w7 (w7.alloc _) := (Below.refl _ w7).alloc (Nat.le_refl _) (Obj.cells #[.int .i64 x.k, .int .i64 x.n, .string x.s, .slice p7 x.q.len c7] 24)
          have E1 := enc_any x.k x.n x.s x.q _ _ ho7 (hs7.below hw) g3 g4
          have E2 := fun y : Later (w7.alloc (.cells #[.int .i64 x.k, .int .i64 x.n, .string x.s, .slice p7 x.q.len c7] 24)) => chk_any x.k x.n x.s x.q _ y.v ho7 ((hs7.below hw).below y.b) g3
          rw [g1, g2] at E1
          rw [g1] at E2
          have E1 := Lib.hid E1
          have E2 := Lib.hid E2
          clear C1 C2 C3 C4 C5 g1 g2 g3 g4 hs7 hdl ho7 A0 A1 A2 A3
          generalize x.k = xk at *
          generalize x.n = xn at *
          generalize x.s = xs at *
          generalize x.q.len = xl at *
          go_wp2_with fail
          refine E1.out.mono ?_
          rintro e w8 ⟨v8, rfl, hown8, _, hb13⟩
          obtain ⟨e0, e1, e2, e3⟩ := boxed (hb13.mono (by simp))
          have hbZ := (hbY.alloc hbY.size _).trans (hb13.mono (hbY.alloc hbY.size _).size)
          have s8 := own_string hown8
          have s9 := C6.out ⟨w8, hbZ⟩
          have E3 := Lib.hid (E2.out ⟨w8, hb13⟩)
          clear E1 E2 hown8
          go_wp2_with fail
          refine E3.out.mono ?_
          rintro e w9 ⟨rfl, hb14⟩
          have hbW := hbZ.trans (hb14.mono hbZ.size)
          go_wp2_with fail
          go_ret
          exact ⟨rfl, hb5.trans (hbW.mono (by omega))⟩
    · go_wp2_with fail
      go_ret
      exact ⟨rfl, hb5⟩
end Go.Proofs.Ytaahmfmelmjahaa
