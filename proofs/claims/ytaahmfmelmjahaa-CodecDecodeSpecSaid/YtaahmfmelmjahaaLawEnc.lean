/-
  CodecEncodeSpec's own body: it returns true.
-/
import Derived.Test.YtaahmfmelmjahaaRe4
import Derived.Test.YtaahmfmelmjahaaFits
import Derived.Laws.BytesArg
namespace Go.Proofs.Ytaahmfmelmjahaa
open Go Go.RowKit
theorem FewV.depv {s : ByteArray} {q : F} (h : FewV s q) (k : Int) : depv k (F.dep q) ≤ 1000 := by
  have := h.dep
  unfold Ytaahmfmelmjahaa.depv
  split <;> omega
theorem FewV.szv {s : ByteArray} {q : F} (h : FewV s q) (k n : Int) : szv k n s q ≤ 1099511627776 := by
  have h1 := h.size
  have h2 := h.sz
  have h3 := nlen_le (hdv k n s.size q.len)
  unfold Ytaahmfmelmjahaa.szv
  omega
theorem strOf_byt (l : List UInt8) : strOfNums (l.map fun c => (c.toNat : Int)) = ⟨l.toArray⟩ := by
  unfold strOfNums
  rw [List.map_map]
  congr 2
  induction l with
  | nil => rfl
  | cons c l ih => rw [List.map_cons, ih]; simp
theorem own_string {w : World} {v : Value} {l : List UInt8} (h : Own w v (l.map byt)) : (convert 27 9 v).run Try.prog w = .ok (.string ⟨l.toArray⟩) w := by
  rcases h with ⟨rfl, hx⟩ | ⟨g, cap, rfl, h⟩
  · have hl : l = [] := by simpa using hx
    subst hl
    exact run_convert_bytes_nil w 27 5 Try.underlying27 (by kernel_rfl) 0 0 9 Try.underlying9
  · rw [← strOf_byt]
    refine run_convert_bytes_arg w 27 5 Try.underlying27 (by kernel_rfl) g 0 (l.map byt).length cap (l.map fun c => (c.toNat : Int)) (by simp) (fun i hi => ?_) 9 Try.underlying9
    have hi' : i < l.length := by simpa using hi
    rw [Nat.zero_add]
    refine h.cells i _ ?_
    rw [List.getElem?_map, List.getElem?_eq_getElem hi']
    simp [byt, List.getD, List.getElem?_eq_getElem hi']
theorem one_lie {w : World} {k n : Int} {s : ByteArray} {q : F} {L : Value} {T : TypeId} (hs : Okv k n s) (hL : Sl w L q) :
    Sl (w.alloc (.cells #[.int .i64 k, .int .i64 n, .string s, L] T)) (.slice (some ⟨w.heap.size, 0, none⟩) 1 1) (.cons k n s q .nil) := by
  have hb : ∀ x, Below w.heap.size w (w.alloc x) := fun x => (Below.refl _ _).alloc (Nat.le_refl _) _
  refine .inr ⟨_, _, _, rfl, by simp [F.len], by unfold maxLen; omega, by simp, ?_⟩
  unfold Lies
  refine ⟨⟨L, by go_simp, by go_simp, by go_simp, by go_simp, hs, hL.below (hb _)⟩, ?_⟩
  unfold Lies
  trivial
theorem own_below {w w' : World} {v : Value} {xs : List Value} (h : Own w v xs) (hb : Below w.heap.size w w') : Own w' v xs :=
  h.keep hb.size fun _ hk => hb.block _ (h.lt hk)
set_option maxHeartbeats 1000000 in
theorem lawEnc (k n : Int) (s : ByteArray) (q : F) (L : Value) (w : World) (hs : Okv k n s) (hL : Sl w L q)
    (hsane : ∀ w : World, Calls Try.prog 10 #[] w (Ret (.bool true) w)) :
    Calls Try.prog 3 #[val k n s L] w (Ret (.bool true) w) := by
  have HS := Lib.hid hsane
  clear hsane
  obtain ⟨p, c, e, _⟩ := hL.shape
  subst e
  go_enter Try.func3, Try.ntmps3
  go_wp2_with fail
  refine (HS.out _).mono ?_
  rintro e w1 ⟨rfl, hb1⟩
  obtain ⟨a0, a1, a2, a3⟩ := boxed (hb1.mono (by simp))
  have hz : w.heap.size + 1 ≤ w1.heap.size := by have := hb1.size; simp at this; omega
  have hb2 : Below w.heap.size w w1 := (one_new _ _).trans (hb1.mono (by simp))
  clear hb1
  have hL1 := hL.below hb2
  clear hL
  go_wp2_with fail
  refine (few_if _ _ _ (one_lie hs hL1)).mono ?_
  rintro e w2 ⟨b, rfl, hif, hb3⟩
  have hb4 : Below w1.heap.size w1 w2 := ((Below.refl _ _).alloc (Nat.le_refl _) _).trans (hb3.mono (by simp))
  have hL2 := hL1.below hb4
  have hb5 := hb2.trans (hb4.mono (by omega))
  have hz2 : w.heap.size + 1 ≤ w2.heap.size := Nat.le_trans hz hb4.size
  have A0 := Later.cell (w := w2) (by omega) ((hb4.cell (p := ⟨w.heap.size, 0, none⟩) (by simp; omega)).trans a0)
  have A1 := Later.cell (w := w2) (by omega) ((hb4.cell (p := ⟨w.heap.size, 1, none⟩) (by simp; omega)).trans a1)
  have A2 := Later.cell (w := w2) (by omega) ((hb4.cell (p := ⟨w.heap.size, 2, none⟩) (by simp; omega)).trans a2)
  have A3 := Later.cell (w := w2) (by omega) ((hb4.cell (p := ⟨w.heap.size, 3, none⟩) (by simp; omega)).trans a3)
  have HL := fun x : Later w2 => hL2.below x.b
  clear a0 a1 a2 a3 hL1 hb3 hb4 hb2
  cases b
  · go_wp2_with fail
    go_ret
    exact ⟨rfl, hb5⟩
  · have hf : FewV s q := (hif rfl).1
    have hd := hf.depv k
    have hsz := hf.szv k n
    have c1 := fun x : Later w2 => enc_any k n s q _ x.v hs (HL x) hd hsz
    have c2 := fun x : Later w2 => renc_any k n s q _ x.v hs (HL x) hd hsz
    have c3 := fun x : Later w2 => size_any k n s q _ x.v hs (HL x) hd hsz
    have c4 := fun x : Later w2 => rsize_any k n s q _ x.v hs (HL x) hd hsz
    have c5 := fun x : Later w2 => chk_any k n s q _ x.v hs (HL x) hd
    have c6 := fun x : Later w2 => rchk_any k n s q _ x.v hs (HL x) hd
    generalize encb k n s q = en at *
    generalize (if chkv k n s q = 0 then (szv k n s q : Int) else 0) = m at *
    generalize chkv k n s q = r at *
    have C1 := Lib.hid c1
    have C2 := Lib.hid c2
    have C3 := Lib.hid c3
    have C4 := Lib.hid c4
    have C5 := Lib.hid c5
    have C6 := Lib.hid c6
    clear c1 c2 c3 c4 c5 c6 hL2 hif hf hd hsz HL
    have d0 := A0 ⟨w2, Below.refl _ _⟩
    have d1 := A1 ⟨w2, Below.refl _ _⟩
    have d2 := A2 ⟨w2, Below.refl _ _⟩
    have d3 := A3 ⟨w2, Below.refl _ _⟩
    go_wp2_with fail
    refine (C1.out ⟨w2, Below.refl _ _⟩).mono ?_
    rintro e w3 ⟨v3, rfl, hown3, hv3, hb6⟩
    replace d0 := A0 ⟨w3, hb6⟩
    replace d1 := A1 ⟨w3, hb6⟩
    replace d2 := A2 ⟨w3, hb6⟩
    replace d3 := A3 ⟨w3, hb6⟩
    have OWN3 := Lib.hid hown3
    clear hown3 hv3
    go_wp2_with fail
    refine (C2.out ⟨w3, hb6⟩).mono ?_
    rintro e w4 ⟨v4, rfl, hown4, hv4, hb7⟩
    have OWN3' := Lib.hid (own_below OWN3.out hb7)
    replace hb7 := hb6.trans (hb7.mono hb6.size)
    replace d0 := A0 ⟨w4, hb7⟩
    replace d1 := A1 ⟨w4, hb7⟩
    replace d2 := A2 ⟨w4, hb7⟩
    replace d3 := A3 ⟨w4, hb7⟩
    have OWN4 := Lib.hid hown4
    clear hown4 hv4 hb6 OWN3
    go_wp2_with fail
    refine (C3.out ⟨w4, hb7⟩).mono ?_
    rintro e w5 ⟨rfl, hb8⟩
    have hb9 := hb7.trans (hb8.mono hb7.size)
    replace d0 := A0 ⟨w5, hb9⟩
    replace d1 := A1 ⟨w5, hb9⟩
    replace d2 := A2 ⟨w5, hb9⟩
    replace d3 := A3 ⟨w5, hb9⟩
    have OWN3 := Lib.hid (own_below OWN3'.out hb8)
    have OWN4' := Lib.hid (own_below OWN4.out hb8)
    clear hb8 hb7 OWN3' OWN4
    go_wp2_with fail
    refine (C4.out ⟨w5, hb9⟩).mono ?_
    rintro e w6 ⟨rfl, hb8⟩
    have hb7 := hb9.trans (hb8.mono hb9.size)
    have B0 := fun x : Later w6 => A0 ⟨x.v, hb7.trans (x.b.mono hb7.size)⟩
    have B1 := fun x : Later w6 => A1 ⟨x.v, hb7.trans (x.b.mono hb7.size)⟩
    have B2 := fun x : Later w6 => A2 ⟨x.v, hb7.trans (x.b.mono hb7.size)⟩
    have B3 := fun x : Later w6 => A3 ⟨x.v, hb7.trans (x.b.mono hb7.size)⟩
    have S3 := fun x : Later w6 => own_string (own_below (own_below OWN3.out hb8) x.b)
    have S4 := fun x : Later w6 => own_string (own_below (own_below OWN4'.out hb8) x.b)
    have D5 := Lib.hid fun x : Later w6 => C5.out ⟨x.v, hb7.trans (x.b.mono hb7.size)⟩
    have D6 := Lib.hid fun x : Later w6 => C6.out ⟨x.v, hb7.trans (x.b.mono hb7.size)⟩
    clear hb8 hb9 OWN3 OWN4' C1 C2 C3 C4 C5 C6 A0 A1 A2 A3 d0 d1 d2 d3
    go_wp2_with fail
    refine wp_region_later (by kernel_rfl) (by kernel_rfl) ?_
    repeat (go_big_quiet_step (first | (go_at_call 16; exact Later.calls (D5.out _)) | (go_at_call 17; exact Later.calls (D6.out _))))
    refine wpQuiet_nil ?_
    intro _ hw'
    obtain ⟨x, hx⟩ := hw'
    subst hx
    go_wp2_with fail
    go_ret
    exact ⟨rfl, (hb5.trans (hb7.mono (by omega))).trans (x.b.mono (by have := hb7.size; omega))⟩
end Go.Proofs.Ytaahmfmelmjahaa
