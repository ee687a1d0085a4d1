/-
  The reader of the codec: texts and lists as values; every value, at every depth that is asked.
-/
import Derived.Test.YtaahmfmelmjahaaRdz
namespace Go.Proofs.Ytaahmfmelmjahaa
open Go Go.RowKit
theorem decv_txt {d : Nat} {c : UInt8} {t : List UInt8} (hk : c.toNat = 2) : decv d (c :: t) = match dtxt t with | some (s, r) => some ⟨2, 0, s, .nil, r⟩ | none => none := by
  unfold decv dtxt
  rw [if_neg (by omega), if_pos hk]
  cases dnum t with
  | none => rfl
  | some a =>
    obtain ⟨u, r⟩ := a
    simp only
    split <;> rfl
theorem decv_lst {d : Nat} {c : UInt8} {t : List UInt8} (hk : c.toNat = 3) : decv d (c :: t) = match dlst d t with | some (f, r) => some ⟨3, 0, ByteArray.empty, f, r⟩ | none => none := by
  cases d with
  | zero =>
    unfold decv dlst
    rw [if_neg (by omega), if_neg (by omega), if_pos hk]
  | succ d =>
    unfold decv dlst
    rw [if_neg (by omega), if_neg (by omega), if_pos hk]
    show (match dnum t with | none => none | some (u, r) => match decl (decv d) u r with | none => none | some (f, r') => some (⟨3, 0, ByteArray.empty, f, r'⟩ : Got)) = _
    cases dnum t with
    | none => rfl
    | some a =>
      obtain ⟨u, r⟩ := a
      simp only
      cases decl (decv d) u r with
      | none => rfl
      | some a => rfl
theorem dtxt_size {l r : List UInt8} {s : ByteArray} (h : dtxt l = some (s, r)) (hl : l.length ≤ 1099511627776) : s.size ≤ maxLen := by
  unfold dtxt at h
  split at h
  · cases h
  · rename_i u r' hd
    have hx := congrArg List.length (dnum_only hd).1
    rw [List.length_append] at hx
    split at h
    · obtain ⟨rfl, rfl⟩ : (⟨(r'.take u).toArray⟩ : ByteArray) = s ∧ r'.drop u = r := by simpa using h
      show (r'.take u).toArray.size ≤ maxLen
      unfold maxLen
      simp
      omega
    · cases h
set_option maxHeartbeats 2000000 in
theorem value_txt (d g b : Nat) (c : UInt8) (t : List UInt8) (w : World) (h : Rd w g b (c :: t)) (hb : b < w.heap.size) (hl : (c :: t).length ≤ 1099511627776) (hk : c.toNat = 2) :
    Calls Try.prog 35 #[.pointer (some ⟨g, 0, none⟩), .int .i64 d] w (ValA g b d (c :: t) w) := by
  have hlt := h.lt
  have hn := fun x => next_kind h hl hk x
  have htl : t.length ≤ 1099511627776 := by simp at hl; omega
  have h2 := fun (w1 : World) (hr : Rd w1 g b t) => txt_all g b t w1 hr htl
  have hdv := decv_txt (d := d) (t := t) hk
  have HN := Lib.hid hn
  unfold TxtA at h2
  cases hdn : dtxt t with
  | none =>
    simp only [hdn] at h2 hdv
    have H2 := Lib.hid h2
    have HNO := Lib.hid hdv
    clear hn h2 hdv hdn h hk
    go_enter Try.func35, Try.ntmps35
    go_wp2_with fail
    refine (HN.out _).mono ?_
    rintro e w1 ⟨rfl, hr1, hc1⟩
    go_wp2_with (go_at_call 51; refine (H2.out _ hr1).mono ?_; rintro e w' ⟨rfl, hc2⟩)
    exact ⟨rfl, valA_no HNO.out (hc1.trans hc2).alloc⟩
  | some a =>
    obtain ⟨s, r⟩ := a
    have hs := dtxt_size hdn htl
    simp only [hdn] at h2 hdv
    have H2 := Lib.hid h2
    have HD := Lib.hid hdv
    have HS := Lib.hid hs
    clear hn h2 hdv hdn h hk hs
    go_enter Try.func35, Try.ntmps35
    go_wp2_with fail
    refine (HN.out _).mono ?_
    rintro e w1 ⟨rfl, hr1, hc1⟩
    go_wp2_with fail
    refine (H2.out _ hr1).mono ?_
    rintro e w2 ⟨rfl, hr2, hc2⟩
    have hc3 := hc1.trans hc2
    obtain ⟨⟨a0, a1, a2, a3⟩, f0, f1, f2, f3⟩ := four_at hc3 hlt
    go_wp2_with fail
    obtain ⟨v1, v2⟩ := val_fin HD.out ⟨by unfold W64; omega, by unfold W64; omega, HS.out⟩ hlt hb hr2 hc3 (.inl ⟨none, 0, rfl, rfl⟩)
    exact bodyPost_ret (results_cell_row rfl _ _ w.heap.size 24 _ (0, 0) _ rfl v2 Try.underlying24 rfl (by kernel_rfl)) rfl v1
set_option maxHeartbeats 2000000 in
theorem value_lst (d g b : Nat) (c : UInt8) (t : List UInt8) (w : World) (h : Rd w g b (c :: t)) (hb : b < w.heap.size) (hl : (c :: t).length ≤ 1099511627776) (hk : c.toNat = 3)
    (hls : ∀ w1 : World, Rd w1 g b t → b < w1.heap.size → Calls Try.prog 52 #[.pointer (some ⟨g, 0, none⟩), .int .i64 d] w1 (LstA g b d t w1)) :
    Calls Try.prog 35 #[.pointer (some ⟨g, 0, none⟩), .int .i64 d] w (ValA g b d (c :: t) w) := by
  have hlt := h.lt
  have hn := fun x => next_kind h hl hk x
  have hdv := decv_lst (d := d) (t := t) hk
  have HN := Lib.hid hn
  unfold LstA at hls
  cases hdn : dlst d t with
  | none =>
    simp only [hdn] at hls hdv
    have H2 := Lib.hid hls
    have HNO := Lib.hid hdv
    clear hn hls hdv hdn h hk
    go_enter Try.func35, Try.ntmps35
    go_wp2_with fail
    refine (HN.out _).mono ?_
    rintro e w1 ⟨rfl, hr1, hc1⟩
    have hz := hc1.size
    rw [World.size_alloc] at hz
    go_wp2_with (go_at_call 52; refine (H2.out _ hr1 (by omega)).mono ?_; rintro e w' ⟨rfl, hc2⟩)
    exact ⟨rfl, valA_no HNO.out (hc1.trans hc2).alloc⟩
  | some a =>
    obtain ⟨f, r⟩ := a
    simp only [hdn] at hls hdv
    have H2 := Lib.hid hls
    have HD := Lib.hid hdv
    clear hn hls hdv hdn h hk
    go_enter Try.func35, Try.ntmps35
    go_wp2_with fail
    refine (HN.out _).mono ?_
    rintro e w1 ⟨rfl, hr1, hc1⟩
    have hz := hc1.size
    rw [World.size_alloc] at hz
    go_wp2_with fail
    refine (H2.out _ hr1 (by omega)).mono ?_
    rintro e w2 ⟨L, rfl, hL, hr2, hc2⟩
    have hc3 := hc1.trans hc2
    have hL2 := cut_less hz hL
    obtain ⟨pL, cL, eL, _⟩ := hL.shape
    subst eL
    clear hL
    obtain ⟨⟨a0, a1, a2, a3⟩, f0, f1, f2, f3⟩ := four_at hc3 hlt
    go_wp2_with fail
    obtain ⟨v1, v2⟩ := val_fin HD.out ⟨by unfold W64; omega, by unfold W64; omega, by simp⟩ hlt hb hr2 hc3 hL2
    exact bodyPost_ret (results_cell_row rfl _ _ w.heap.size 24 _ (0, 0) _ rfl v2 Try.underlying24 rfl (by kernel_rfl)) rfl v1
theorem value_all : ∀ d, d ≤ 16 → ValOK d := by
  intro d
  induction d with
  | zero =>
    intro _ g b l w h hb hl
    rcases l with _ | ⟨c, t⟩
    · exact value_none 0 g b [] w h hl (.inl rfl)
    · by_cases h1 : c.toNat = 1
      · exact value_num 0 g b c t w h hb hl h1
      · by_cases h2 : c.toNat = 2
        · exact value_txt 0 g b c t w h hb hl h2
        · by_cases h3 : c.toNat = 3
          · exact value_lst 0 g b c t w h hb hl h3 fun w1 _ _ => list_zero g b t w1
          · exact value_none 0 g b _ w h hl (.inr ⟨c, t, rfl, h1, h2, h3⟩)
  | succ d ih =>
    intro hd g b l w h hb hl
    rcases l with _ | ⟨c, t⟩
    · exact value_none (d + 1) g b [] w h hl (.inl rfl)
    · by_cases h1 : c.toNat = 1
      · exact value_num (d + 1) g b c t w h hb hl h1
      · by_cases h2 : c.toNat = 2
        · exact value_txt (d + 1) g b c t w h hb hl h2
        · by_cases h3 : c.toNat = 3
          · exact value_lst (d + 1) g b c t w h hb hl h3 fun w1 hr hb1 => list_succ d (ih (by omega)) (by omega) g b t w1 hr hb1 (by simp at hl; omega)
          · exact value_none (d + 1) g b _ w h hl (.inr ⟨c, t, rfl, h1, h2, h3⟩)
end Go.Proofs.Ytaahmfmelmjahaa
