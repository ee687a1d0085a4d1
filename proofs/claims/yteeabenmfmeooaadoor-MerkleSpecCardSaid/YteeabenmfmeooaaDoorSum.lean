/-
  Digest: Sum.
-/
import Derived.Test.YteeabenmfmeooaaDoorDig
namespace Go.Proofs.YteeabenmfmeooaaDoor
open Go Go.RowKit
def iv : R8 := ⟨1779033703, 3144134277, 1013904242, 2773480762, 1359893119, 2600822924, 528734635, 1541459225⟩
theorem new_any (w : World) : Calls Tryd.prog 34 #[] w fun e w' => e = .returned (.pointer (some ⟨w.heap.size, 0, none⟩)) ∧ St w' w.heap.size iv ∧ Below w.heap.size w w' := by
  go_enter Tryd.func34, Tryd.ntmps34
  go_wp2_with fail
  go_ret
  exact ⟨rfl, heap_alloc_new _ _, one_new _ _⟩
/-- a block absorbed -/
def ab (f : Nat → Int) (s : R8) : R8 := mix 8 s (rnds (sched f 64) s 64)
def fb (l : List UInt8) (i k : Nat) : Int := ((l.getD (64 * i + k) 0).toNat : Int)
def feed (l : List UInt8) (s : R8) : Nat → R8
  | 0 => s
  | i + 1 => ab (fb l i) (feed l s i)
theorem fb_lt (l : List UInt8) (i k : Nat) : 0 ≤ fb l i k ∧ fb l i k < 256 := by
  unfold fb
  have := (l.getD (64 * i + k) 0).toNat_lt
  omega
def EachR (g : Nat) (s : R8) (w : World) (e : Ending) (w' : World) : Prop := e = .returned (.tuple #[]) ∧ St w' g s ∧ Chg g w w'
set_option maxRecDepth 100000 in
set_option maxHeartbeats 1000000 in
theorem each_any (g b N cap : Nat) (p : Option Addr) (l : List UInt8) (s : R8) (w : World) (hN : N ≤ l.length) (hc : N ≤ cap) (hm : cap ≤ 9223372036854775807) (hb : BArg w b p l) (hbg : b ≠ g) (hs : St w g s) (hk : KOK w) (hg : 0 < g) :
    Calls Tryd.prog 35 #[.slice p N cap, .func (.func 36) #[.pointer (some ⟨g, 0, none⟩)] #[]] w (EachR g (feed l s (N / 64)) w) := by
  rcases hb with rfl | ⟨o, rfl, hlt, hcell⟩
  · obtain rfl : N = 0 := by simpa using hN
    clear hN
    go_enter Tryd.func35, Tryd.ntmps35
    go_wp2_with fail
    go_loopw [8] (fun i wr => i = .int .i64 0 ∧ wr = w) (fun _ _ => 0)
    case atStart => exact ⟨rfl, rfl⟩
    case round =>
      obtain ⟨rfl, rfl⟩ := hrel
      go_wp2_with fail
      go_end0
      exact ⟨rfl, hs, Chg.refl _ _⟩
  · have HC := Lib.hid hcell
    have HN := Lib.hid hN
    have HK := Lib.hid hk
    have hN9 : N ≤ 9223372036854775807 := by omega
    clear hcell hN hk
    go_enter Tryd.func35, Tryd.ntmps35
    go_wp2_with fail
    go_loopw [8] (fun i wr => ∃ k : Nat, k ≤ N / 64 ∧ i = .int .i64 k ∧ St wr g (feed l s k) ∧ Chg g w wr) (fun i _ => N / 64 - (intOf i).toNat)
    case atStart => exact ⟨0, Nat.zero_le _, rfl, hs, Chg.refl _ _⟩
    case round =>
      clear hs
      obtain ⟨k, hk, rfl, hst, hch⟩ := hrel
      by_cases hlt : k < N / 64
      · have hab := absorb_any g b (o + k * 64) (fb l k) (feed l s k) (cap - k * 64) wr (by omega) (by omega) (fb_lt l k) (Nat.lt_of_lt_of_le ‹b < _› hch.size) hbg (fun j hj => by
          have hjl : 64 * k + j < l.length := by have := HN.out; omega
          rw [hch.cell ‹b < _› hbg, Nat.add_assoc, show k * 64 + j = 64 * k + j by omega, HC.out _ _ (List.getElem?_eq_getElem hjl)]
          simp [byt, fb, List.getD, List.getElem?_eq_getElem hjl]) hst (HK.out.chg hch hg) hg
        have HA := Lib.hid hab
        clear hab hst
        go_wp2_with fail
        rw [show (k + 1) * 64 - k * 64 = 64 from by omega]
        refine HA.out.mono ?_
        rintro e w' ⟨rfl, hst2, hch2⟩
        go_wp2_with fail
        go_roundw
        case rel => exact ⟨k + 1, by omega, by go_num, hst2, hch.trans hch2⟩
        case measure => simp [intOf]; omega
      · have hst8 : St wr g (feed l s (N / 64)) := by
          rw [← show k = N / 64 from by omega]
          exact hst
        clear hst
        go_wp2_with fail
        go_end0
        exact ⟨rfl, hst8, hch⟩
/-- the hash of bytes -/
def sha (l : List UInt8) : List UInt8 :=
  digof (feed (padl (l.drop (l.length / 64 * 64)) l.length) (feed l iv (l.length / 64)) ((padl (l.drop (l.length / 64 * 64)) l.length).length / 64))
def ShaR (l : List UInt8) (w : World) (e : Ending) (w' : World) : Prop := e = .returned (dgv (sha l)) ∧ Below w.heap.size w w'
theorem zeros32 (w : World) : Dg (w.alloc (.cells ((List.replicate 32 (0 : UInt8)).map byt).toArray 30)) w.heap.size (List.replicate 32 0) := heap_alloc_new _ _
theorem row_arg {w : World} {g : Nat} {l : List UInt8} (h : Row w g l) : BArg w g (some ⟨g, 0, none⟩) l :=
  .inr ⟨0, rfl, h.lt, fun j c hj => by
    have hl := (List.getElem?_eq_some_iff.1 hj).1
    rw [Nat.zero_add, h.get j hl]
    simp [List.getD, hj]⟩
theorem each_pad (g g3 n : Nat) (l : List UInt8) (s : R8) (w : World) (hl : l.length < 64) (hr : Row w g3 (padl l n)) (hg : g3 ≠ g) (hs : St w g s) (hk : KOK w) (h0 : 0 < g) :
    Calls Tryd.prog 35 #[.slice (some ⟨g3, 0, none⟩) (padsz l.length) (padsz l.length), .func (.func 36) #[.pointer (some ⟨g, 0, none⟩)] #[]] w (EachR g (feed (padl l n) s ((padl l n).length / 64)) w) := by
  have e := padl_len l n hl
  have hz : padsz l.length ≤ 128 := by unfold padsz; split <;> omega
  rw [e]
  exact each_any g g3 (padsz l.length) (padsz l.length) (some ⟨g3, 0, none⟩) (padl l n) s w (by omega) (Nat.le_refl _) (by omega) (row_arg hr) hg hs hk h0
set_option maxRecDepth 100000 in
set_option maxHeartbeats 1000000 in
theorem sum_nil (cap : Nat) (p : Option Addr) (w : World) (hm : cap ≤ 9223372036854775807) (hp : p = none → cap = 0) (hk : KOK w) :
    Calls Tryd.prog 21 #[.slice p 0 cap] w (ShaR [] w) := by
  have HK := Lib.hid hk
  clear hk
  rcases p with _ | a
  · obtain rfl := hp rfl
    clear hp
    go_enter Tryd.func21, Tryd.ntmps21
    go_wp2_with fail
    refine (new_any _).mono ?_
    rintro e w1 ⟨rfl, hst1, hb1⟩
    rw [World.size_alloc] at hst1 hb1
    have hz1 := hb1.size
    rw [World.size_alloc] at hz1
    have hd1 : Dg w1 w.heap.size (List.replicate 32 0) := (hb1.block w.heap.size (by omega)).trans (heap_alloc_new _ _)
    have hbw1 : Below w.heap.size w w1 := (one_new w _).trans (hb1.mono (by omega))
    have hlt1 := hst1.lt
    have HE := Lib.hid (each_any (w.heap.size + 1) (0) (0) 0 none [] iv w1 (Nat.le_refl _) (by omega) (by omega) (.inl rfl) (by omega) hst1 (HK.out.below hbw1) (by omega))
    clear hb1
    go_wp2_with fail
    refine HE.out.mono ?_
    rintro e w2 ⟨rfl, hst2, hch2⟩
    have hz2 := hch2.size
    have hd2 : Dg w2 w.heap.size (List.replicate 32 0) := (hch2.block w.heap.size (by omega) (by omega)).trans hd1
    have hbw2 : Below w.heap.size w w2 := Chg.below hbw1 (by omega) (by omega) hch2
    have HP := Lib.hid (pad_any (0) (0) (0) 0 (none) ([]) w2 (rfl : ([] : List UInt8).length = 0) (by omega) (by omega) (by omega) (.inl rfl) (by omega))
    clear HE hst1 hd1 hch2 hbw1
    go_wp2_with fail
    refine HP.out.mono ?_
    rintro e w3 ⟨g3, rfl, hg3, hrow3, hb3⟩
    have hz3 := hb3.size
    have hst3 := hst2.keep (hb3.block _ (by omega))
    have hd3 : Dg w3 w.heap.size (List.replicate 32 0) := (hb3.block w.heap.size (by omega)).trans hd2
    have hbw3 : Below w.heap.size w w3 := hbw2.trans (hb3.mono (by omega))
    have HE2 := Lib.hid (each_pad (w.heap.size + 1) g3 0 ([]) _ w3 (by simp) hrow3 (by omega) hst3 (HK.out.below hbw3) (by omega))
    clear HP hst2 hd2 hbw2 hst3 hrow3 hb3
    go_wp2_with fail
    refine HE2.out.mono ?_
    rintro e w4 ⟨rfl, hst4, hch4⟩
    have hz4 := hch4.size
    have hd4 : Dg w4 w.heap.size (List.replicate 32 0) := (hch4.block w.heap.size (by omega) (by omega)).trans hd3
    have hbw4 : Below w.heap.size w w4 := Chg.below hbw3 (by omega) (by omega) hch4
    have HD := Lib.hid (digest_any _ _ w4 hst4)
    clear HE2 hd3 hbw3 hst4 hch4
    go_wp2_with fail
    refine HD.out.mono ?_
    rintro e w5 ⟨rfl, hb5⟩
    have hd5 : Dg w5 w.heap.size (List.replicate 32 0) := (hb5.block w.heap.size (by omega)).trans hd4
    have hbw5 : Below w.heap.size w w5 := hbw4.trans (hb5.mono (by omega))
    have HD5 := Lib.hid hd5
    clear hd4 hbw4 hd5
    go_wp2_with (refine dg_store rfl (.tmp 2) (.tmp 26) rfl w.heap.size _ _ HD5.out (by simp) (digof_len _) rfl rfl ?_; rintro w6 hd6 hc6)
    exact bodyPost_ret (results_cell_row rfl _ _ w.heap.size 30 _ (0, 0) _ rfl hd6.out Tryd.underlying30 rfl (dg_size (digof_len _))) rfl ⟨rfl, Chg.below hbw5 hbw5.size (Nat.le_refl _) hc6⟩
  · clear hp
    go_enter Tryd.func21, Tryd.ntmps21
    go_wp2_with fail
    refine (new_any _).mono ?_
    rintro e w1 ⟨rfl, hst1, hb1⟩
    rw [World.size_alloc] at hst1 hb1
    have hz1 := hb1.size
    rw [World.size_alloc] at hz1
    have hd1 : Dg w1 w.heap.size (List.replicate 32 0) := (hb1.block w.heap.size (by omega)).trans (heap_alloc_new _ _)
    have hbw1 : Below w.heap.size w w1 := (one_new w _).trans (hb1.mono (by omega))
    have hlt1 := hst1.lt
    have HE := Lib.hid (each_any (w.heap.size + 1) (0) (0) cap (some a) [] iv w1 (Nat.le_refl _) (by omega) (by omega) (.inl rfl) (by omega) hst1 (HK.out.below hbw1) (by omega))
    clear hb1
    go_wp2_with fail
    refine HE.out.mono ?_
    rintro e w2 ⟨rfl, hst2, hch2⟩
    have hz2 := hch2.size
    have hd2 : Dg w2 w.heap.size (List.replicate 32 0) := (hch2.block w.heap.size (by omega) (by omega)).trans hd1
    have hbw2 : Below w.heap.size w w2 := Chg.below hbw1 (by omega) (by omega) hch2
    have HP := Lib.hid (pad_any (0) (0) (cap) 0 (some a) ([]) w2 (rfl : ([] : List UInt8).length = 0) (by omega) (by omega) (by omega) (.inl rfl) (by omega))
    clear HE hst1 hd1 hch2 hbw1
    go_wp2_with fail
    refine HP.out.mono ?_
    rintro e w3 ⟨g3, rfl, hg3, hrow3, hb3⟩
    have hz3 := hb3.size
    have hst3 := hst2.keep (hb3.block _ (by omega))
    have hd3 : Dg w3 w.heap.size (List.replicate 32 0) := (hb3.block w.heap.size (by omega)).trans hd2
    have hbw3 : Below w.heap.size w w3 := hbw2.trans (hb3.mono (by omega))
    have HE2 := Lib.hid (each_pad (w.heap.size + 1) g3 0 ([]) _ w3 (by simp) hrow3 (by omega) hst3 (HK.out.below hbw3) (by omega))
    clear HP hst2 hd2 hbw2 hst3 hrow3 hb3
    go_wp2_with fail
    refine HE2.out.mono ?_
    rintro e w4 ⟨rfl, hst4, hch4⟩
    have hz4 := hch4.size
    have hd4 : Dg w4 w.heap.size (List.replicate 32 0) := (hch4.block w.heap.size (by omega) (by omega)).trans hd3
    have hbw4 : Below w.heap.size w w4 := Chg.below hbw3 (by omega) (by omega) hch4
    have HD := Lib.hid (digest_any _ _ w4 hst4)
    clear HE2 hd3 hbw3 hst4 hch4
    go_wp2_with fail
    refine HD.out.mono ?_
    rintro e w5 ⟨rfl, hb5⟩
    have hd5 : Dg w5 w.heap.size (List.replicate 32 0) := (hb5.block w.heap.size (by omega)).trans hd4
    have hbw5 : Below w.heap.size w w5 := hbw4.trans (hb5.mono (by omega))
    have HD5 := Lib.hid hd5
    clear hd4 hbw4 hd5
    go_wp2_with (refine dg_store rfl (.tmp 2) (.tmp 26) rfl w.heap.size _ _ HD5.out (by simp) (digof_len _) rfl rfl ?_; rintro w6 hd6 hc6)
    exact bodyPost_ret (results_cell_row rfl _ _ w.heap.size 30 _ (0, 0) _ rfl hd6.out Tryd.underlying30 rfl (dg_size (digof_len _))) rfl ⟨rfl, Chg.below hbw5 hbw5.size (Nat.le_refl _) hc6⟩
theorem sha_eq {l : List UInt8} {N : Nat} (hN : l.length = N) : sha l = digof (feed (padl (l.drop (N / 64 * 64)) N) (feed l iv (N / 64)) ((padl (l.drop (N / 64 * 64)) N).length / 64)) := by
  unfold sha
  rw [hN]
theorem barg_drop {w : World} {b o : Nat} {l : List UInt8} (n : Nat) (h : BArg w b (some ⟨b, o, none⟩) l) : BArg w b (some ⟨b, o + n, none⟩) (l.drop n) := by
  rcases h with rfl | ⟨o', e, c2, c3⟩
  · exact .inl (by simp)
  · obtain rfl : o = o' := by simpa using e
    refine .inr ⟨_, rfl, c2, fun j c hj => ?_⟩
    rw [List.getElem?_drop] at hj
    rw [Nat.add_assoc]
    exact c3 _ c hj
theorem BArg.chg {w w' : World} {b g : Nat} {p : Option Addr} {l : List UInt8} (h : BArg w b p l) (hc : Chg g w w') (hg : b ≠ g) : BArg w' b p l := by
  rcases h with h | ⟨o, e, c2, c3⟩
  · exact .inl h
  · exact .inr ⟨o, e, Nat.lt_of_lt_of_le c2 hc.size, fun j c hj => (hc.cell c2 hg).trans (c3 j c hj)⟩
set_option maxRecDepth 100000 in
set_option maxHeartbeats 1000000 in
theorem sum_some (b o N cap : Nat) (l : List UInt8) (w : World) (hN : l.length = N) (hN2 : N ≤ 1099511627776) (hc : N ≤ cap) (hm : cap ≤ 9223372036854775807) (hb : BArg w b (some ⟨b, o, none⟩) l) (hb2 : b < w.heap.size) (hk : KOK w) :
    Calls Tryd.prog 21 #[.slice (some ⟨b, o, none⟩) N cap] w (ShaR l w) := by
  have HB := Lib.hid hb
  have HK := Lib.hid hk
  have HN := Lib.hid hN
  obtain ⟨d, hd⟩ : ∃ d, d = l.drop (N / 64 * 64) := ⟨_, rfl⟩
  have HDR := Lib.hid hd
  clear hb hN hk hd
  by_cases hcap : cap = N / 64 * 64
  · have hd0 : l.drop (N / 64 * 64) = [] := List.drop_eq_nil_iff.2 (by rw [HN.out]; omega)
    have HD0 := Lib.hid hd0
    clear hd0
    obtain rfl := hcap
    go_enter Tryd.func21, Tryd.ntmps21
    go_wp2_with fail
    refine (new_any _).mono ?_
    rintro e w1 ⟨rfl, hst1, hb1⟩
    rw [World.size_alloc] at hst1 hb1
    have hz1 := hb1.size
    rw [World.size_alloc] at hz1
    have hd1 : Dg w1 w.heap.size (List.replicate 32 0) := (hb1.block w.heap.size (by omega)).trans (heap_alloc_new _ _)
    have hbw1 : Below w.heap.size w w1 := (one_new w _).trans (hb1.mono (by omega))
    have hlt1 := hst1.lt
    have HE := Lib.hid (each_any (w.heap.size + 1) b (N / 64 * 64) (N / 64 * 64) (some ⟨b, o, none⟩) l iv w1 (by rw [HN.out]; omega) (by omega) (by omega) (HB.out.below hbw1) (by omega) hst1 (HK.out.below hbw1) (by omega))
    clear hb1
    go_wp2_with fail
    with_reducible refine HE.out.mono ?_
    rintro e w2 ⟨rfl, hst2, hch2⟩
    have hz2 := hch2.size
    have hd2 : Dg w2 w.heap.size (List.replicate 32 0) := (hch2.block w.heap.size (by omega) (by omega)).trans hd1
    have hbw2 : Below w.heap.size w w2 := Chg.below hbw1 (by omega) (by omega) hch2
    have HP := Lib.hid (pad_any b 0 0 N (some ⟨b, o, none⟩) d w2 (by rw [HDR.out, HD0.out]; rfl) (by omega) (by omega) (by omega) (by rw [HDR.out, HD0.out]; exact .inl rfl) (by omega))
    clear HE hst1 hd1 hch2 hbw1
    go_wp2_with fail
    with_reducible refine HP.out.mono ?_
    rintro e w3 ⟨g3, rfl, hg3, hrow3, hb3⟩
    have hz3 := hb3.size
    have hst3 := hst2.keep (hb3.block _ (by omega))
    have hd3 : Dg w3 w.heap.size (List.replicate 32 0) := (hb3.block w.heap.size (by omega)).trans hd2
    have hbw3 : Below w.heap.size w w3 := hbw2.trans (hb3.mono (by omega))
    have HE2 := Lib.hid (each_pad (w.heap.size + 1) g3 N d _ w3 (by rw [HDR.out, List.length_drop, HN.out]; omega) hrow3 (by omega) hst3 (HK.out.below hbw3) (by omega))
    clear HP hst2 hd2 hbw2 hst3 hrow3 hb3
    go_wp2_with fail
    with_reducible refine HE2.out.mono ?_
    rintro e w4 ⟨rfl, hst4, hch4⟩
    have hz4 := hch4.size
    have hd4 : Dg w4 w.heap.size (List.replicate 32 0) := (hch4.block w.heap.size (by omega) (by omega)).trans hd3
    have hbw4 : Below w.heap.size w w4 := Chg.below hbw3 (by omega) (by omega) hch4
    have HD := Lib.hid (digest_any _ _ w4 hst4)
    clear HE2 hd3 hbw3 hst4 hch4
    go_wp2_with fail
    with_reducible refine HD.out.mono ?_
    rintro e w5 ⟨rfl, hb5⟩
    have hd5 : Dg w5 w.heap.size (List.replicate 32 0) := (hb5.block w.heap.size (by omega)).trans hd4
    have hbw5 : Below w.heap.size w w5 := hbw4.trans (hb5.mono (by omega))
    have HD5 := Lib.hid hd5
    clear hd4 hbw4 hd5
    go_wp2_with (refine dg_store rfl (.tmp 2) (.tmp 26) rfl w.heap.size _ _ HD5.out (by simp) (digof_len _) rfl rfl ?_; rintro w6 hd6 hc6)
    exact bodyPost_ret (results_cell_row rfl _ _ w.heap.size 30 _ (0, 0) _ rfl hd6.out Tryd.underlying30 rfl (dg_size (digof_len _))) rfl ⟨by rw [sha_eq HN.out, ← HDR.out], Chg.below hbw5 hbw5.size (Nat.le_refl _) hc6⟩
  · skip
    go_enter Tryd.func21, Tryd.ntmps21
    go_wp2_with fail
    refine (new_any _).mono ?_
    rintro e w1 ⟨rfl, hst1, hb1⟩
    rw [World.size_alloc] at hst1 hb1
    have hz1 := hb1.size
    rw [World.size_alloc] at hz1
    have hd1 : Dg w1 w.heap.size (List.replicate 32 0) := (hb1.block w.heap.size (by omega)).trans (heap_alloc_new _ _)
    have hbw1 : Below w.heap.size w w1 := (one_new w _).trans (hb1.mono (by omega))
    have hlt1 := hst1.lt
    have HE := Lib.hid (each_any (w.heap.size + 1) b (N / 64 * 64) cap (some ⟨b, o, none⟩) l iv w1 (by rw [HN.out]; omega) (by omega) (by omega) (HB.out.below hbw1) (by omega) hst1 (HK.out.below hbw1) (by omega))
    clear hb1
    go_wp2_with fail
    with_reducible refine HE.out.mono ?_
    rintro e w2 ⟨rfl, hst2, hch2⟩
    have hz2 := hch2.size
    have hd2 : Dg w2 w.heap.size (List.replicate 32 0) := (hch2.block w.heap.size (by omega) (by omega)).trans hd1
    have hbw2 : Below w.heap.size w w2 := Chg.below hbw1 (by omega) (by omega) hch2
    have HP := Lib.hid (pad_any b (N - N / 64 * 64) (cap - N / 64 * 64) N (some ⟨b, o + N / 64 * 64, none⟩) d w2 (by rw [HDR.out, List.length_drop, HN.out]) (by omega) (by omega) (by omega) (by rw [HDR.out]; exact (barg_drop _ HB.out).below hbw2) (by omega))
    clear HE hst1 hd1 hch2 hbw1
    go_wp2_with fail
    with_reducible refine HP.out.mono ?_
    rintro e w3 ⟨g3, rfl, hg3, hrow3, hb3⟩
    have hz3 := hb3.size
    have hst3 := hst2.keep (hb3.block _ (by omega))
    have hd3 : Dg w3 w.heap.size (List.replicate 32 0) := (hb3.block w.heap.size (by omega)).trans hd2
    have hbw3 : Below w.heap.size w w3 := hbw2.trans (hb3.mono (by omega))
    have HE2 := Lib.hid (each_pad (w.heap.size + 1) g3 N d _ w3 (by rw [HDR.out, List.length_drop, HN.out]; omega) hrow3 (by omega) hst3 (HK.out.below hbw3) (by omega))
    clear HP hst2 hd2 hbw2 hst3 hrow3 hb3
    go_wp2_with fail
    with_reducible refine HE2.out.mono ?_
    rintro e w4 ⟨rfl, hst4, hch4⟩
    have hz4 := hch4.size
    have hd4 : Dg w4 w.heap.size (List.replicate 32 0) := (hch4.block w.heap.size (by omega) (by omega)).trans hd3
    have hbw4 : Below w.heap.size w w4 := Chg.below hbw3 (by omega) (by omega) hch4
    have HD := Lib.hid (digest_any _ _ w4 hst4)
    clear HE2 hd3 hbw3 hst4 hch4
    go_wp2_with fail
    with_reducible refine HD.out.mono ?_
    rintro e w5 ⟨rfl, hb5⟩
    have hd5 : Dg w5 w.heap.size (List.replicate 32 0) := (hb5.block w.heap.size (by omega)).trans hd4
    have hbw5 : Below w.heap.size w w5 := hbw4.trans (hb5.mono (by omega))
    have HD5 := Lib.hid hd5
    clear hd4 hbw4 hd5
    go_wp2_with (refine dg_store rfl (.tmp 2) (.tmp 26) rfl w.heap.size _ _ HD5.out (by simp) (digof_len _) rfl rfl ?_; rintro w6 hd6 hc6)
    exact bodyPost_ret (results_cell_row rfl _ _ w.heap.size 30 _ (0, 0) _ rfl hd6.out Tryd.underlying30 rfl (dg_size (digof_len _))) rfl ⟨by rw [sha_eq HN.out, ← HDR.out], Chg.below hbw5 hbw5.size (Nat.le_refl _) hc6⟩
/-- a slice of bytes that a call is given -/
def BV (w : World) (v : Value) (l : List UInt8) : Prop := ∃ (b cap : Nat) (p : Option Addr), v = .slice p l.length cap ∧ l.length ≤ cap ∧ cap ≤ 9223372036854775807 ∧ (p = none → cap = 0) ∧ BArg w b p l
theorem BV.below {w w' : World} {v : Value} {l : List UInt8} (h : BV w v l) (hb : Below w.heap.size w w') : BV w' v l := by
  obtain ⟨b, cap, p, e, h1, h2, h3, h4⟩ := h
  exact ⟨b, cap, p, e, h1, h2, h3, h4.below hb⟩
theorem sum_any (v : Value) (l : List UInt8) (w : World) (hv : BV w v l) (hl : l.length ≤ 1099511627776) (hk : KOK w) : Calls Tryd.prog 21 #[v] w (ShaR l w) := by
  obtain ⟨b, cap, p, rfl, h1, h2, h3, h4⟩ := hv
  have h4' := h4
  rcases h4 with rfl | ⟨o, rfl, c2, _⟩
  · exact sum_nil cap p w h2 h3 hk
  · exact sum_some b o l.length cap l w rfl hl h1 h2 h4' c2 hk
theorem sha_len (l : List UInt8) : (sha l).length = 32 := digof_len _
end Go.Proofs.YteeabenmfmeooaaDoor
