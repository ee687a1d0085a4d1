/-
  CodecDifferent's own body: it returns true.
-/
import Derived.Test.YtaahmfmelmjahaaLawEnc
import Derived.Test.YtaahmfmelmjahaaLawSame
import Derived.Test.YtaahmfmelmjahaaInj
namespace Go.Proofs.Ytaahmfmelmjahaa
open Go Go.RowKit
theorem own_string_take {w : World} {g cap m : Nat} {l : List UInt8} (h : OwnAt w g cap (l.map byt)) (hm : m ≤ l.length) : (convert 27 9 (.slice (some ⟨g, 0, none⟩) m cap)).run Try.prog w = .ok (.string ⟨(l.take m).toArray⟩) w := by
  rw [← strOf_byt]
  refine run_convert_bytes_arg w 27 5 Try.underlying27 (by kernel_rfl) g 0 m cap ((l.take m).map fun c => (c.toNat : Int)) (by simp; omega) (fun i hi => ?_) 9 Try.underlying9
  have hi' : i < l.length := by omega
  rw [Nat.zero_add]
  refine h.cells i _ ?_
  rw [List.getElem?_map, List.getElem?_eq_getElem hi']
  simp [byt, List.getD, List.getElem?_take, hi, List.getElem?_eq_getElem hi']
theorem own_at_below {w w' : World} {g cap : Nat} {xs : List Value} (h : OwnAt w g cap xs) (hb : Below w.heap.size w w') : OwnAt w' g cap xs :=
  h.keep hb.size (hb.block _ h.lt)
theorem eqv_eq {k n : Int} {s : ByteArray} {q : F} {k' n' : Int} {s' : ByteArray} {q' : F} (h : eqv k n s q k' n' s' q' = true) : k = k' ∧ n = n' ∧ s = s' ∧ q = q' := by
  simp only [eqv, Bool.and_eq_true, beq_iff_eq] at h
  exact ⟨h.1.1.1, h.1.1.2, str_eq h.1.2, F.same_eq h.2⟩
theorem encb_pos {k n : Int} {s : ByteArray} {q : F} (h : chkv k n s q = 0) : 0 < (encb k n s q).length := by
  unfold encb
  rw [if_pos h]
  simp [encv]
theorem encb_pre {k n : Int} {s : ByteArray} {q : F} {k' n' : Int} {s' : ByteArray} {q' : F} (h : chkv k n s q = 0) (h' : chkv k' n' s' q' = 0) (o : Okv k n s) (o' : Okv k' n' s') (oq : F.ok q) (oq' : F.ok q')
    (z : q.len ≤ 9223372036854775807) (z' : q'.len ≤ 9223372036854775807) (r r' : List UInt8) (e : encb k n s q ++ r = encb k' n' s' q' ++ r') : eqv k n s q k' n' s' q' = true := by
  unfold encb at e
  rw [if_pos h, if_pos h'] at e
  have hs := o.2.2
  have hs' := o'.2.2
  unfold maxLen at hs hs'
  have := (F.enc_inj (.cons k n s q .nil) (.cons k' n' s' q' .nil) r r' ⟨⟨o.1, o.2.1, hs, z⟩, oq, trivial⟩ ⟨⟨o'.1, o'.2.1, hs', z'⟩, oq', trivial⟩ (by simp [F.wf, chk_wf h]) (by simp [F.wf, chk_wf h']) rfl (by simpa [F.enc, encv] using e)).1
  obtain ⟨rfl, rfl, rfl, rfl⟩ := F.cons.inj this |> fun x => (⟨x.1, x.2.1, x.2.2.1, x.2.2.2.1⟩ : _ ∧ _ ∧ _ ∧ _)
  simp [eqv, F.same_refl]
theorem take_pre {a b : List UInt8} {m : Nat} (e : a = b.take m) : a ++ b.drop m = b := by rw [e, List.take_append_drop]
theorem encb_take {k n : Int} {s : ByteArray} {q : F} {k' n' : Int} {s' : ByteArray} {q' : F} (h : chkv k n s q = 0) (h' : chkv k' n' s' q' = 0) (o : Okv k n s) (o' : Okv k' n' s') (oq : F.ok q) (oq' : F.ok q')
    (z : q.len ≤ 9223372036854775807) (z' : q'.len ≤ 9223372036854775807) (hn : eqv k n s q k' n' s' q' = false) (m : Nat) (hm : m = (encb k n s q).length ∨ m = (encb k' n' s' q').length) :
    (⟨((encb k n s q).take m).toArray⟩ : ByteArray) ≠ ⟨((encb k' n' s' q').take m).toArray⟩ := by
  intro e
  have e1 : (encb k n s q).take m = (encb k' n' s' q').take m := by simpa using congrArg (fun b : ByteArray => b.data.toList) e
  have hp := encb_pre h h' o o' oq oq' z z'
  rw [hn] at hp
  rcases hm with rfl | rfl
  · rw [List.take_length] at e1
    have := hp ((encb k' n' s' q').drop (encb k n s q).length) [] (by rw [List.append_nil]; exact take_pre e1)
    cases this
  · rw [List.take_length] at e1
    have := hp [] ((encb k n s q).drop (encb k' n' s' q').length) (by rw [List.append_nil]; exact (take_pre e1.symm).symm)
    cases this
theorem bytes_ne {a b : ByteArray} (h : a ≠ b) : (a.toList == b.toList) = false := by
  simpa using fun e => h (str_eq e)
set_option maxHeartbeats 2000000 in
theorem lawDiff (k n : Int) (s : ByteArray) (q : F) (k' n' : Int) (s' : ByteArray) (q' : F) (L L' : Value) (w : World) (hs : Okv k n s) (hs' : Okv k' n' s') (hL : Sl w L q) (hL' : Sl w L' q')
    (hsane : ∀ w : World, Calls Try.prog 10 #[] w (Ret (.bool true) w)) :
    Calls Try.prog 7 #[val k n s L, val k' n' s' L'] w (Ret (.bool true) w) := by
  have HS := Lib.hid hsane
  have OQ := Lib.hid (And.intro hL.ok hL'.ok)
  clear hsane
  obtain ⟨p, c, e, hql⟩ := hL.shape
  obtain ⟨p', c', e', hql'⟩ := hL'.shape
  have QL := Lib.hid (And.intro hql hql')
  subst e
  subst e'
  go_enter Try.func7, Try.ntmps7
  go_wp2_with fail
  refine (HS.out _).mono ?_
  rintro e w1 ⟨rfl, hb1⟩
  obtain ⟨⟨a0, a1, a2, a3⟩, b0, b1, b2, b3⟩ := boxed8 hb1
  have hz : w.heap.size + 2 ≤ w1.heap.size := by have := hb1.size; simp at this; omega
  have hb2 : Below w.heap.size w w1 := (two_new _ _ _).trans (hb1.mono (by simp; omega))
  clear hb1
  have hL1 := hL.below hb2
  have hL1' := hL'.below hb2
  clear hL hL' hql hql'
  go_wp2_with fail
  refine (few_if _ _ _ (two_lie hs hs' hL1 hL1')).mono ?_
  rintro e w2 ⟨b, rfl, hif, hb3⟩
  have hb4 : Below w1.heap.size w1 w2 := ((Below.refl _ _).alloc (Nat.le_refl _) _).trans (hb3.mono (by simp))
  have hL2 := hL1.below hb4
  have hL2' := hL1'.below hb4
  have hb5 := hb2.trans (hb4.mono (by omega))
  have hz2 : w.heap.size + 2 ≤ w2.heap.size := Nat.le_trans hz hb4.size
  have A0 := Later.cell (w := w2) (by omega) ((hb4.cell (p := ⟨w.heap.size, 0, none⟩) (by simp; omega)).trans a0)
  have A1 := Later.cell (w := w2) (by omega) ((hb4.cell (p := ⟨w.heap.size, 1, none⟩) (by simp; omega)).trans a1)
  have A2 := Later.cell (w := w2) (by omega) ((hb4.cell (p := ⟨w.heap.size, 2, none⟩) (by simp; omega)).trans a2)
  have A3 := Later.cell (w := w2) (by omega) ((hb4.cell (p := ⟨w.heap.size, 3, none⟩) (by simp; omega)).trans a3)
  have B0 := Later.cell (w := w2) (by omega) ((hb4.cell (p := ⟨w.heap.size + 1, 0, none⟩) (by simp; omega)).trans b0)
  have B1 := Later.cell (w := w2) (by omega) ((hb4.cell (p := ⟨w.heap.size + 1, 1, none⟩) (by simp; omega)).trans b1)
  have B2 := Later.cell (w := w2) (by omega) ((hb4.cell (p := ⟨w.heap.size + 1, 2, none⟩) (by simp; omega)).trans b2)
  have B3 := Later.cell (w := w2) (by omega) ((hb4.cell (p := ⟨w.heap.size + 1, 3, none⟩) (by simp; omega)).trans b3)
  have HL := fun x : Later w2 => hL2.below x.b
  have HL' := fun x : Later w2 => hL2'.below x.b
  clear a0 a1 a2 a3 b0 b1 b2 b3 hL1 hL1' hb3 hb4 hb2
  cases b
  · go_wp2_with fail
    go_ret
    exact ⟨rfl, hb5⟩
  · have hf : FewV s q := (hif rfl).1
    have hf' : FewV s' q' := (hif rfl).2.1
    have hd := hf.depv k
    have hsz := hf.szv k n
    have hd' := hf'.depv k'
    have hsz' := hf'.szv k' n'
    have c1 := fun x : Later w2 => enc_any k n s q _ x.v hs (HL x) hd hsz
    have c2 := fun x : Later w2 => enc_any k' n' s' q' _ x.v hs' (HL' x) hd' hsz'
    have c3 := fun x : Later w2 => csame_any k n s q k' n' s' q' _ _ x.v hs hs' (HL x) (HL' x)
    have le1 : (encb k n s q).length ≤ 1099511627776 := by
      have := encb_length k n s q
      split at this <;> omega
    have le2 : (encb k' n' s' q').length ≤ 1099511627776 := by
      have := encb_length k' n' s' q'
      split at this <;> omega
    have FT := Lib.hid (fun (h : chkv k n s q = 0) (h' : chkv k' n' s' q' = 0) (m : Nat) => encb_take h h' hs hs' OQ.out.1 OQ.out.2 QL.out.1 QL.out.2 (m := m))
    have FP := Lib.hid (fun (h : chkv k n s q = 0) => encb_pos h)
    have FP' := Lib.hid (fun (h : chkv k' n' s' q' = 0) => encb_pos h)
    have FE : eqv k n s q k' n' s' q' = true → encb k n s q = encb k' n' s' q' := fun h => by
      obtain ⟨rfl, rfl, rfl, rfl⟩ := eqv_eq h
      rfl
    have FE := Lib.hid FE
    generalize eqv k n s q k' n' s' q' = r at *
    generalize encb k n s q = en at *
    generalize encb k' n' s' q' = en' at *
    generalize chkv k n s q = ck at *
    generalize chkv k' n' s' q' = ck' at *
    have C1 := Lib.hid c1
    have C2 := Lib.hid c2
    have C3 := Lib.hid c3
    clear c1 c2 c3 hL2 hL2' hif hf hf' hd hsz hd' hsz' HL HL' OQ QL
    have d0 := A0 ⟨w2, Below.refl _ _⟩
    have d1 := A1 ⟨w2, Below.refl _ _⟩
    have d2 := A2 ⟨w2, Below.refl _ _⟩
    have d3 := A3 ⟨w2, Below.refl _ _⟩
    go_wp2_with fail
    refine (C1.out ⟨w2, Below.refl _ _⟩).mono ?_
    rintro e w3 ⟨v3, rfl, hown3, hv3, hb6⟩
    have OWN3 := Lib.hid hown3
    clear hown3 hv3 d0 d1 d2 d3
    have d0 := B0 ⟨w3, hb6⟩
    have d1 := B1 ⟨w3, hb6⟩
    have d2 := B2 ⟨w3, hb6⟩
    have d3 := B3 ⟨w3, hb6⟩
    go_wp2_with fail
    refine (C2.out ⟨w3, hb6⟩).mono ?_
    rintro e w4 ⟨v4, rfl, hown4, hv4, hb7⟩
    have OWN3' := Lib.hid (own_below OWN3.out hb7)
    replace hb7 := hb6.trans (hb7.mono hb6.size)
    have OWN4 := Lib.hid hown4
    clear hown4 hv4 hb6 OWN3 d0 d1 d2 d3
    by_cases h1 : ck = 0
    · subst h1
      by_cases h2 : ck' = 0
      · subst h2
        have d0 := A0 ⟨w4, hb7⟩
        have d1 := A1 ⟨w4, hb7⟩
        have d2 := A2 ⟨w4, hb7⟩
        have d3 := A3 ⟨w4, hb7⟩
        have e0 := B0 ⟨w4, hb7⟩
        have e1 := B1 ⟨w4, hb7⟩
        have e2 := B2 ⟨w4, hb7⟩
        have e3 := B3 ⟨w4, hb7⟩
        cases r
        · have h3 := OWN3'.out
          have h4 := OWN4.out
          have p3 := FP.out rfl
          have p4 := FP'.out rfl
          rcases h3 with ⟨_, hx⟩ | ⟨g3, cap3, rfl, h3⟩
          · rw [List.map_eq_nil_iff.1 hx] at p3
            cases p3
          rcases h4 with ⟨_, hx⟩ | ⟨g4, cap4, rfl, h4⟩
          · rw [List.map_eq_nil_iff.1 hx] at p4
            cases p4
          have le3 : en.length ≤ cap3 := by simpa using h3.le
          have le4 : en'.length ≤ cap4 := by simpa using h4.le
          have O3 := Lib.hid h3
          have O4 := Lib.hid h4
          rw [List.length_map, List.length_map]
          have hne : ∀ m, (m = en.length ∨ m = en'.length) → (⟨(en.take m).toArray⟩ : ByteArray) ≠ ⟨(en'.take m).toArray⟩ := fun m hm => FT.out rfl rfl m rfl hm
          have S3 := fun (x : Later w4) (m : Nat) (hm : m ≤ en.length) => own_string_take (own_at_below O3.out x.b) hm
          have S4 := fun (x : Later w4) (m : Nat) (hm : m ≤ en'.length) => own_string_take (own_at_below O4.out x.b) hm
          clear h3 h4 FT FP FP' FE OWN3' OWN4
          go_wp2_with fail
          refine (C3.out ⟨w4, hb7⟩).mono ?_
          rintro e w5 ⟨rfl, hb8⟩
          clear d0 d1 d2 d3 e0 e1 e2 e3 A0 A1 A2 A3 B0 B1 B2 B3 C1 C2 C3 O3 O4
          by_cases hle : en.length ≤ en'.length
          · skip
            have t3 := fun x : Later w5 => S3 ⟨x.v, hb8.trans (x.b.mono hb8.size)⟩ en.length (Nat.le_refl _)
            have t4 := fun x : Later w5 => S4 ⟨x.v, hb8.trans (x.b.mono hb8.size)⟩ en.length hle
            have hN := hne en.length (.inl rfl)
            clear S3 S4 hne
            generalize (⟨(en.take en.length).toArray⟩ : ByteArray) = sa at *
            generalize (⟨(en'.take en.length).toArray⟩ : ByteArray) = sb at *
            generalize en.length = l3 at *
            generalize en'.length = l4 at *
            go_wp2_with fail
            refine wp_region_later (by kernel_rfl) (by kernel_rfl) ?_
            repeat (go_big_quiet_step (fail))
            refine wpQuiet_nil ?_
            intro _ hw'
            obtain ⟨x, hx⟩ := hw'
            subst hx
            go_wp2_with fail
            go_ret
            exact ⟨by show Ending.returned (.bool (!(sa.toList == sb.toList))) = _; rw [bytes_ne hN]; rfl, hb5.trans ((hb7.trans ((hb8.trans (x.b.mono hb8.size)).mono hb7.size)).mono (by omega))⟩
          · replace hle : en'.length < en.length := by omega
            have t3 := fun x : Later w5 => S3 ⟨x.v, hb8.trans (x.b.mono hb8.size)⟩ en'.length (Nat.le_of_lt hle)
            have t4 := fun x : Later w5 => S4 ⟨x.v, hb8.trans (x.b.mono hb8.size)⟩ en'.length (Nat.le_refl _)
            have hN := hne en'.length (.inr rfl)
            clear S3 S4 hne
            generalize (⟨(en.take en'.length).toArray⟩ : ByteArray) = sa at *
            generalize (⟨(en'.take en'.length).toArray⟩ : ByteArray) = sb at *
            generalize en.length = l3 at *
            generalize en'.length = l4 at *
            go_wp2_with fail
            refine wp_region_later (by kernel_rfl) (by kernel_rfl) ?_
            repeat (go_big_quiet_step (fail))
            refine wpQuiet_nil ?_
            intro _ hw'
            obtain ⟨x, hx⟩ := hw'
            subst hx
            go_wp2_with fail
            go_ret
            exact ⟨by show Ending.returned (.bool (!(sa.toList == sb.toList))) = _; rw [bytes_ne hN]; rfl, hb5.trans ((hb7.trans ((hb8.trans (x.b.mono hb8.size)).mono hb7.size)).mono (by omega))⟩
        · have S3 := fun x : Later w4 => own_string (own_below OWN3'.out x.b)
          have S4 := fun x : Later w4 => own_string (own_below OWN4.out x.b)
          have he := FE.out rfl
          subst he
          clear FT FP FP' FE OWN3' OWN4 C1 C2
          go_wp2_with fail
          refine (C3.out ⟨w4, hb7⟩).mono ?_
          rintro e w5 ⟨rfl, hb8⟩
          have t3 := S3 ⟨w5, hb8⟩
          have t4 := S4 ⟨w5, hb8⟩
          clear S3 S4 d0 d1 d2 d3 e0 e1 e2 e3 A0 A1 A2 A3 B0 B1 B2 B3
          go_wp2_with fail
          go_ret
          exact ⟨rfl, hb5.trans ((hb7.trans (hb8.mono hb7.size)).mono (by omega))⟩
      · clear C1 C2 C3 FT FP FP' FE OWN3' OWN4 A0 A1 A2 A3 B0 B1 B2 B3
        go_wp2_with fail
        go_ret
        exact ⟨rfl, hb5.trans (hb7.mono (by omega))⟩
    · clear C1 C2 C3 FT FP FP' FE OWN3' OWN4 A0 A1 A2 A3 B0 B1 B2 B3
      go_wp2_with fail
      go_ret
      exact ⟨rfl, hb5.trans (hb7.mono (by omega))⟩
end Go.Proofs.Ytaahmfmelmjahaa
