/-
  NetworkOnlySent's own body: it returns true.
-/
import Derived.Test.YtpempgajejbdoaaOnm
import Derived.Test.YtpempgajejbdoaaOpm
import Derived.Deep.RegionHeld3
import Derived.Deep.CutRange
namespace Go.Proofs.Ytpempgajejbdoaa
open Go Go.RowKit
set_option maxRecDepth 20000 in
set_option maxHeartbeats 8000000 in
theorem lawOnly (v : Value) (l : List Mv) (w : World) (h : MVs w v l) (hsane : ∀ w : World, Calls Try.prog 9 #[] w (Ret (.bool true) w)) : Calls Try.prog 5 #[v] w (Ret (.bool true) w) := by
  obtain ⟨pl, cl, rfl, hl1, hl2, hmv⟩ := h
  unfold maxLen at hl2
  have HMV := Lib.hid hmv
  have HSN := Lib.hid hsane
  clear hmv hsane
  generalize hLl : l.length = L at *
  go_enter Try.func5, Try.ntmps5
  go_wp2_with fail
  refine (HSN.out _).mono ?_
  rintro e w1 ⟨rfl, hb1⟩
  by_cases h60 : 60 < L
  · have hI : (60 : Int) < (L : Int) := by omega
    go_wp2_with fail
    go_ret
    exact ⟨rfl, hb1⟩
  have hI : ¬ (60 : Int) < (L : Int) := by omega
  go_wp2_with fail
  refine (new_any (F := fun _ => False) w1).mono ?_
  rintro e w2 ⟨v2, rfl, hv2, hb2⟩
  obtain ⟨pq0, N0, cq0, pa0, M0, ca0, rfl, HO0, _⟩ := hv2.op
  have HA0 : Hid (B1 w (w2.alloc (.cells #[.slice pq0 N0 cq0, .slice pa0 M0 ca0] 25)) w2.heap.size zero [] (.slice none 0 0) (.slice pq0 N0 cq0) (.slice pa0 M0 ca0) []) := Lib.hid ⟨heap_alloc_new _ _, (hv2.wid fun b hb _ => ⟨by omega, fun e => by cases e⟩).below (one_new _ _), OwnN.nil 3 _, (fun j x hj => by simp at hj), (fun k e => by cases e), (hb1.trans (hb2.mono hb1.size)).trans ((one_new _ _).mono (by have := hb1.size; have := hb2.size; omega))⟩
  have hwnb : w.heap.size ≤ w2.heap.size := by have := hb1.size; have := hb2.size; omega
  clear hv2 hb1 hb2 HO0
  go_wp2_with fail
  generalize (w2.alloc (.cells #[.slice pq0 N0 cq0, .slice pa0 M0 ca0] 25)) = W0 at *
  generalize w2.heap.size = nb at *
  obtain ⟨i0, hi0, hz0, hsz0, hby0⟩ := inf28
  go_loopw [4, 5, 6] (fun v c i wr => ∃ (k : Nat) (rv : Value) (cuts : Nat) (n : Nt) (sent : List Pk) (c0 c1 : Value) (xs : List Value), rv = v ∧ k ≤ L ∧ i = .int .i64 k ∧ c = .int .i64 cuts ∧ cuts ≤ k ∧ sent.length ≤ k ∧ Hid (Snt n sent cuts) ∧ Hid (B1 w wr nb n sent rv c0 c1 xs)) (fun _ _ i _ => L - (intOf i).toNat)
  case atStart => exact ⟨0, _, 0, zero, [], _, _, [], rfl, by omega, rfl, rfl, by omega, by simp, Lib.hid snt_new, HA0⟩
  clear HA0
  obtain ⟨k, rv, cuts, n, sent, c0, c1, xs, rfl, hk, rfl, rfl, hck, hsk, HSt, HA⟩ := hrel
  by_cases hgo : k < L
  rotate_left
  · have hgI : ¬ (k : Int) < (L : Int) := by omega
    go_wp2_with fail
    go_ret
    exact ⟨rfl, HA.out.below⟩
  have hgI : (k : Int) < (L : Int) := by omega
  have hw1 : IntKind.i64.wrap ((k : Int) + 1) = (k : Int) + 1 := by rw [IntKind.wrap_i64]; omega
  have hw2 : IntKind.i64.wrap ((cuts : Int) + 1) = (cuts : Int) + 1 := by rw [IntKind.wrap_i64]; omega
  obtain ⟨m, hm⟩ : ∃ m, l[k]? = some m := ⟨_, List.getElem?_eq_getElem (by omega)⟩
  obtain ⟨b, o, rfl, hbl, g0, g1, g2, g3, g4, hok⟩ := HMV.out k m hm
  have hbw := HA.out.below
  have hnbl := HA.out.nb
  have hbb : b < wr.heap.size := Nat.lt_of_lt_of_le hbl hbw.size
  have g0 := (bcells hbw hbl _).trans g0
  have g1 := (bcells hbw hbl _).trans g1
  have g2 := (bcells hbw hbl _).trans g2
  have g3 := (bcells hbw hbl _).trans g3
  have g4 := (bcells hbw hbl _).trans g4
  obtain ⟨⟨r0, r1⟩, r2, r3⟩ := row2_cells HA.out.row
  obtain ⟨pq, N, cq, pa, M, ca, hc, HO, _⟩ := HA.out.nv.op
  obtain ⟨rfl, rfl⟩ : c0 = .slice pq N cq ∧ c1 = .slice pa M ca := by simpa [nval] using hc
  have HC : Hid (∀ W', Below wr.heap.size wr W' → Calls Try.prog 27 #[nval pq N cq pa M ca, .agg #[.int .u8 m.k, .int .u8 m.i, .int .u8 m.a, .int .u8 m.b, byt m.d]] W' (RetH (Lo (Ot nb rv) wr) (hapN n m) (hapP n m) (hapE n m) W')) := Lib.hid fun W' hb => hap_any _ n m W' (HA.out.nv.lo.below hb) hok.k hok.i hok.a hok.b
  have HK : Hid (∀ V, Below wr.heap.size wr V → (V.cell? ⟨nb, 0, none⟩ = some (.slice pq N cq) ∧ V.cell? ⟨nb, 1, none⟩ = some (.slice pa M ca) ∧ V.cell? ⟨b, o + k * 5, none⟩ = some (.int .u8 m.k) ∧ V.cell? ⟨b, o + k * 5 + 1, none⟩ = some (.int .u8 m.i) ∧ V.cell? ⟨b, o + k * 5 + 2, none⟩ = some (.int .u8 m.a) ∧ V.cell? ⟨b, o + k * 5 + 3, none⟩ = some (.int .u8 m.b) ∧ V.cell? ⟨b, o + k * 5 + 4, none⟩ = some (byt m.d))) := Lib.hid fun V hb => ⟨(bcells hb hnbl _).trans r0, (bcells hb hnbl _).trans r1, (bcells hb hbb _).trans g0, (bcells hb hbb _).trans g1, (bcells hb hbb _).trans g2, (bcells hb hbb _).trans g3, (bcells hb hbb _).trans g4⟩
  clear hbw hc HO
  go_upto_region 11 with fail
  go_cut [7, 8, 9] from 18 to 101 (fun s7 s8 s9 wc => ∃ (za zb : Nat) (q9 : Option Addr) (N9 k9 : Nat) (a9 : Option Addr) (M9 l9 : Nat) (p9 : Option Addr) (L9 z9 : Nat), s7 = .pointer (some ⟨za, 0, none⟩) ∧ s8 = .pointer (some ⟨zb, 0, none⟩) ∧ s9 = .int .i64 (hapE n m) ∧ wr.heap.size ≤ za ∧ wr.heap.size ≤ zb ∧
    Hid (wc.heap[za]? = some (.cells #[.slice q9 N9 k9, .slice a9 M9 l9] 25 (0, 0))) ∧ Hid (wc.heap[zb]? = some (.cells #[.int .i64 (hapP n m).1, .int .i64 (hapP n m).2.1, .slice p9 L9 z9] 28 (0, 0))) ∧ Hid (NV (Nw (Ot nb rv) wr) wc (nval q9 N9 k9 a9 M9 l9) (hapN n m)) ∧
    Hid (PKV (Nw (Ot nb rv) wr) wc (.agg #[.int .i64 (hapP n m).1, .int .i64 (hapP n m).2.1, .slice p9 L9 z9]) (hapP n m)) ∧ Hid (Below wr.heap.size wr wc))
  case first =>
    go_region_held3 (fun w' => w'.cell? ⟨nb, 0, none⟩ = some (.slice pq N cq) ∧ w'.cell? ⟨nb, 1, none⟩ = some (.slice pa M ca) ∧ w'.cell? ⟨b, o + k * 5, none⟩ = some (.int .u8 m.k) ∧ w'.cell? ⟨b, o + k * 5 + 1, none⟩ = some (.int .u8 m.i) ∧ w'.cell? ⟨b, o + k * 5 + 2, none⟩ = some (.int .u8 m.a) ∧ w'.cell? ⟨b, o + k * 5 + 3, none⟩ = some (.int .u8 m.b) ∧ w'.cell? ⟨b, o + k * 5 + 4, none⟩ = some (byt m.d))
      (first | with_reducible exact a2 | (with_reducible refine HK.out _ ?_; repeat (first | with_reducible exact hbx | with_reducible exact Below.refl _ _ | (with_reducible refine below_set' ?_ ?_; first | omega | (simp only [World.size_alloc]; omega)) | with_reducible refine below_alloc ?_ _ | with_reducible refine drew_bel ?_)))
      (first
        | (go_at_call 27; refine (HC.out wr.drew (drew_bel (Below.refl _ _))).mono ?_; rintro e w9 ⟨v9, u9, rfl, hv9, hu9, hb9⟩; obtain ⟨q9, N9, k9, a9, M9, l9, rfl, _, _⟩ := hv9.op; obtain ⟨p9, L9, z9, rfl, _, _, _⟩ := hu9.open; have hs9 : wr.heap.size + 0 ≤ w9.heap.size := (by have := hb9.size; simp only [heap_drw, World.size_alloc] at this; omega); have hs8 : nb < w9.heap.size := (by omega); have hs7 : b < w9.heap.size := (by omega); have hbx : Below wr.heap.size wr w9 := (show Below wr.heap.size wr wr.drew from (drew_bel (Below.refl _ _))).trans (hb9.mono (show Below wr.heap.size wr wr.drew from (drew_bel (Below.refl _ _))).size); have a2 : w9.cell? ⟨nb, 0, none⟩ = some (.slice pq N cq) ∧ w9.cell? ⟨nb, 1, none⟩ = some (.slice pa M ca) ∧ w9.cell? ⟨b, o + k * 5, none⟩ = some (.int .u8 m.k) ∧ w9.cell? ⟨b, o + k * 5 + 1, none⟩ = some (.int .u8 m.i) ∧ w9.cell? ⟨b, o + k * 5 + 2, none⟩ = some (.int .u8 m.a) ∧ w9.cell? ⟨b, o + k * 5 + 3, none⟩ = some (.int .u8 m.b) ∧ w9.cell? ⟨b, o + k * 5 + 4, none⟩ = some (byt m.d) := ⟨(bcells hbx hnbl _).trans r0, (bcells hbx hnbl _).trans r1, (bcells hbx hbb _).trans g0, (bcells hbx hbb _).trans g1, (bcells hbx hbb _).trans g2, (bcells hbx hbb _).trans g3, (bcells hbx hbb _).trans g4⟩)
        | (go_at_call 27; refine (HC.out (wr.alloc (.cells #[.slice none 0 0, .slice none 0 0] 25)).drew (drew_bel (one_new _ _))).mono ?_; rintro e w9 ⟨v9, u9, rfl, hv9, hu9, hb9⟩; obtain ⟨q9, N9, k9, a9, M9, l9, rfl, _, _⟩ := hv9.op; obtain ⟨p9, L9, z9, rfl, _, _, _⟩ := hu9.open; have hs9 : wr.heap.size + 1 ≤ w9.heap.size := (by have := hb9.size; simp only [heap_drw, World.size_alloc] at this; omega); have hs8 : nb < w9.heap.size := (by omega); have hs7 : b < w9.heap.size := (by omega); have hs6 : wr.heap.size < w9.heap.size := (by omega); have hbx : Below wr.heap.size wr w9 := (show Below wr.heap.size wr (wr.alloc (.cells #[.slice none 0 0, .slice none 0 0] 25)).drew from (drew_bel (one_new _ _))).trans (hb9.mono (show Below wr.heap.size wr (wr.alloc (.cells #[.slice none 0 0, .slice none 0 0] 25)).drew from (drew_bel (one_new _ _))).size); have a2 : w9.cell? ⟨nb, 0, none⟩ = some (.slice pq N cq) ∧ w9.cell? ⟨nb, 1, none⟩ = some (.slice pa M ca) ∧ w9.cell? ⟨b, o + k * 5, none⟩ = some (.int .u8 m.k) ∧ w9.cell? ⟨b, o + k * 5 + 1, none⟩ = some (.int .u8 m.i) ∧ w9.cell? ⟨b, o + k * 5 + 2, none⟩ = some (.int .u8 m.a) ∧ w9.cell? ⟨b, o + k * 5 + 3, none⟩ = some (.int .u8 m.b) ∧ w9.cell? ⟨b, o + k * 5 + 4, none⟩ = some (byt m.d) := ⟨(bcells hbx hnbl _).trans r0, (bcells hbx hnbl _).trans r1, (bcells hbx hbb _).trans g0, (bcells hbx hbb _).trans g1, (bcells hbx hbb _).trans g2, (bcells hbx hbb _).trans g3, (bcells hbx hbb _).trans g4⟩; have rA : w9.heap[wr.heap.size]? = some (.cells #[.slice none 0 0, .slice none 0 0] 25 (0, 0)) := (hb9.block _ (by simp only [heap_drw, World.size_alloc]; omega)).trans (heap_alloc_new wr (.cells #[.slice none 0 0, .slice none 0 0] 25)); obtain ⟨⟨x0, x1⟩, x2, x3⟩ := row2_cells rA)
        | (go_at_call 27; refine (HC.out (wr.alloc (.cells #[.int .i64 0, .int .i64 0, .slice none 0 0] 28)).drew (drew_bel (one_new _ _))).mono ?_; rintro e w9 ⟨v9, u9, rfl, hv9, hu9, hb9⟩; obtain ⟨q9, N9, k9, a9, M9, l9, rfl, _, _⟩ := hv9.op; obtain ⟨p9, L9, z9, rfl, _, _, _⟩ := hu9.open; have hs9 : wr.heap.size + 1 ≤ w9.heap.size := (by have := hb9.size; simp only [heap_drw, World.size_alloc] at this; omega); have hs8 : nb < w9.heap.size := (by omega); have hs7 : b < w9.heap.size := (by omega); have hs6 : wr.heap.size < w9.heap.size := (by omega); have hbx : Below wr.heap.size wr w9 := (show Below wr.heap.size wr (wr.alloc (.cells #[.int .i64 0, .int .i64 0, .slice none 0 0] 28)).drew from (drew_bel (one_new _ _))).trans (hb9.mono (show Below wr.heap.size wr (wr.alloc (.cells #[.int .i64 0, .int .i64 0, .slice none 0 0] 28)).drew from (drew_bel (one_new _ _))).size); have a2 : w9.cell? ⟨nb, 0, none⟩ = some (.slice pq N cq) ∧ w9.cell? ⟨nb, 1, none⟩ = some (.slice pa M ca) ∧ w9.cell? ⟨b, o + k * 5, none⟩ = some (.int .u8 m.k) ∧ w9.cell? ⟨b, o + k * 5 + 1, none⟩ = some (.int .u8 m.i) ∧ w9.cell? ⟨b, o + k * 5 + 2, none⟩ = some (.int .u8 m.a) ∧ w9.cell? ⟨b, o + k * 5 + 3, none⟩ = some (.int .u8 m.b) ∧ w9.cell? ⟨b, o + k * 5 + 4, none⟩ = some (byt m.d) := ⟨(bcells hbx hnbl _).trans r0, (bcells hbx hnbl _).trans r1, (bcells hbx hbb _).trans g0, (bcells hbx hbb _).trans g1, (bcells hbx hbb _).trans g2, (bcells hbx hbb _).trans g3, (bcells hbx hbb _).trans g4⟩; have rB : w9.heap[wr.heap.size]? = some (.cells #[.int .i64 0, .int .i64 0, .slice none 0 0] 28 (0, 0)) := (hb9.block _ (by simp only [heap_drw, World.size_alloc]; omega)).trans (heap_alloc_new wr (.cells #[.int .i64 0, .int .i64 0, .slice none 0 0] 28)); obtain ⟨⟨y0, y1, y2⟩, y3, y4, y5⟩ := row3_cells rB)
        | (go_at_call 27; refine (HC.out ((wr.alloc (.cells #[.slice none 0 0, .slice none 0 0] 25)).alloc (.cells #[.int .i64 0, .int .i64 0, .slice none 0 0] 28)).drew (drew_bel (two_below _ _ _))).mono ?_; rintro e w9 ⟨v9, u9, rfl, hv9, hu9, hb9⟩; obtain ⟨q9, N9, k9, a9, M9, l9, rfl, _, _⟩ := hv9.op; obtain ⟨p9, L9, z9, rfl, _, _, _⟩ := hu9.open; have hs9 : wr.heap.size + 2 ≤ w9.heap.size := (by have := hb9.size; simp only [heap_drw, World.size_alloc] at this; omega); have hs8 : nb < w9.heap.size := (by omega); have hs7 : b < w9.heap.size := (by omega); have hs6 : wr.heap.size < w9.heap.size := (by omega); have hs5 : wr.heap.size + 1 < w9.heap.size := (by omega); have hbx : Below wr.heap.size wr w9 := (show Below wr.heap.size wr ((wr.alloc (.cells #[.slice none 0 0, .slice none 0 0] 25)).alloc (.cells #[.int .i64 0, .int .i64 0, .slice none 0 0] 28)).drew from (drew_bel (two_below _ _ _))).trans (hb9.mono (show Below wr.heap.size wr ((wr.alloc (.cells #[.slice none 0 0, .slice none 0 0] 25)).alloc (.cells #[.int .i64 0, .int .i64 0, .slice none 0 0] 28)).drew from (drew_bel (two_below _ _ _))).size); have a2 : w9.cell? ⟨nb, 0, none⟩ = some (.slice pq N cq) ∧ w9.cell? ⟨nb, 1, none⟩ = some (.slice pa M ca) ∧ w9.cell? ⟨b, o + k * 5, none⟩ = some (.int .u8 m.k) ∧ w9.cell? ⟨b, o + k * 5 + 1, none⟩ = some (.int .u8 m.i) ∧ w9.cell? ⟨b, o + k * 5 + 2, none⟩ = some (.int .u8 m.a) ∧ w9.cell? ⟨b, o + k * 5 + 3, none⟩ = some (.int .u8 m.b) ∧ w9.cell? ⟨b, o + k * 5 + 4, none⟩ = some (byt m.d) := ⟨(bcells hbx hnbl _).trans r0, (bcells hbx hnbl _).trans r1, (bcells hbx hbb _).trans g0, (bcells hbx hbb _).trans g1, (bcells hbx hbb _).trans g2, (bcells hbx hbb _).trans g3, (bcells hbx hbb _).trans g4⟩; have rA : w9.heap[wr.heap.size]? = some (.cells #[.slice none 0 0, .slice none 0 0] 25 (0, 0)) := (hb9.block _ (by simp only [heap_drw, World.size_alloc]; omega)).trans (rowA wr (.cells #[.slice none 0 0, .slice none 0 0] 25) (.cells #[.int .i64 0, .int .i64 0, .slice none 0 0] 28)); obtain ⟨⟨x0, x1⟩, x2, x3⟩ := row2_cells rA; have rB : w9.heap[wr.heap.size + 1]? = some (.cells #[.int .i64 0, .int .i64 0, .slice none 0 0] 28 (0, 0)) := (hb9.block _ (by simp only [heap_drw, World.size_alloc]; omega)).trans (rowB' wr (.cells #[.slice none 0 0, .slice none 0 0] 25) (.cells #[.int .i64 0, .int .i64 0, .slice none 0 0] 28)); obtain ⟨⟨y0, y1, y2⟩, y3, y4, y5⟩ := row3_cells rB)
        | (go_at_call 27; refine (HC.out ((wr.alloc (.cells #[.int .i64 0, .int .i64 0, .slice none 0 0] 28)).alloc (.cells #[.slice none 0 0, .slice none 0 0] 25)).drew (drew_bel (two_below _ _ _))).mono ?_; rintro e w9 ⟨v9, u9, rfl, hv9, hu9, hb9⟩; obtain ⟨q9, N9, k9, a9, M9, l9, rfl, _, _⟩ := hv9.op; obtain ⟨p9, L9, z9, rfl, _, _, _⟩ := hu9.open; have hs9 : wr.heap.size + 2 ≤ w9.heap.size := (by have := hb9.size; simp only [heap_drw, World.size_alloc] at this; omega); have hs8 : nb < w9.heap.size := (by omega); have hs7 : b < w9.heap.size := (by omega); have hs6 : wr.heap.size < w9.heap.size := (by omega); have hs5 : wr.heap.size + 1 < w9.heap.size := (by omega); have hbx : Below wr.heap.size wr w9 := (show Below wr.heap.size wr ((wr.alloc (.cells #[.int .i64 0, .int .i64 0, .slice none 0 0] 28)).alloc (.cells #[.slice none 0 0, .slice none 0 0] 25)).drew from (drew_bel (two_below _ _ _))).trans (hb9.mono (show Below wr.heap.size wr ((wr.alloc (.cells #[.int .i64 0, .int .i64 0, .slice none 0 0] 28)).alloc (.cells #[.slice none 0 0, .slice none 0 0] 25)).drew from (drew_bel (two_below _ _ _))).size); have a2 : w9.cell? ⟨nb, 0, none⟩ = some (.slice pq N cq) ∧ w9.cell? ⟨nb, 1, none⟩ = some (.slice pa M ca) ∧ w9.cell? ⟨b, o + k * 5, none⟩ = some (.int .u8 m.k) ∧ w9.cell? ⟨b, o + k * 5 + 1, none⟩ = some (.int .u8 m.i) ∧ w9.cell? ⟨b, o + k * 5 + 2, none⟩ = some (.int .u8 m.a) ∧ w9.cell? ⟨b, o + k * 5 + 3, none⟩ = some (.int .u8 m.b) ∧ w9.cell? ⟨b, o + k * 5 + 4, none⟩ = some (byt m.d) := ⟨(bcells hbx hnbl _).trans r0, (bcells hbx hnbl _).trans r1, (bcells hbx hbb _).trans g0, (bcells hbx hbb _).trans g1, (bcells hbx hbb _).trans g2, (bcells hbx hbb _).trans g3, (bcells hbx hbb _).trans g4⟩; have rA : w9.heap[wr.heap.size + 1]? = some (.cells #[.slice none 0 0, .slice none 0 0] 25 (0, 0)) := (hb9.block _ (by simp only [heap_drw, World.size_alloc]; omega)).trans (rowB' wr (.cells #[.int .i64 0, .int .i64 0, .slice none 0 0] 28) (.cells #[.slice none 0 0, .slice none 0 0] 25)); obtain ⟨⟨x0, x1⟩, x2, x3⟩ := row2_cells rA; have rB : w9.heap[wr.heap.size]? = some (.cells #[.int .i64 0, .int .i64 0, .slice none 0 0] 28 (0, 0)) := (hb9.block _ (by simp only [heap_drw, World.size_alloc]; omega)).trans (rowA wr (.cells #[.int .i64 0, .int .i64 0, .slice none 0 0] 28) (.cells #[.slice none 0 0, .slice none 0 0] 25)); obtain ⟨⟨y0, y1, y2⟩, y3, y4, y5⟩ := row3_cells rB))
    · go_wp2_with fail
      have hj := leaf1 (F := Ot nb rv) (wr := wr) (W' := wr.drew) hv9 hu9 hbx (Nat.le_refl _)
      go_meet
      case rel => exact ⟨_, _, q9, N9, k9, a9, M9, l9, p9, L9, z9, rfl, rfl, rfl, hj.hza, hj.hzb, hj.ra, hj.rb, hj.nv, hj.pv, hj.b⟩
    · go_wp2_with fail
      have hj := leaf2 (F := Ot nb rv) (wr := wr) (W' := wr.drew) hv9 hu9 hbx (Nat.le_refl _)
      go_meet
      case rel => exact ⟨_, _, q9, N9, k9, a9, M9, l9, p9, L9, z9, rfl, rfl, rfl, hj.hza, hj.hzb, hj.ra, hj.rb, hj.nv, hj.pv, hj.b⟩
    · go_wp2_with fail
      have hj := leaf3 (F := Ot nb rv) (wr := wr) hv9 hu9 hbx (Nat.le_refl _) (by simp only [heap_drw, World.size_alloc]; omega) hb9.size rA
      go_meet
      case rel => exact ⟨_, _, q9, N9, k9, a9, M9, l9, p9, L9, z9, rfl, rfl, rfl, hj.hza, hj.hzb, hj.ra, hj.rb, hj.nv, hj.pv, hj.b⟩
    · go_wp2_with fail
      have hj := leaf4 (F := Ot nb rv) (wr := wr) hv9 hu9 hbx (Nat.le_refl _) (by simp only [heap_drw, World.size_alloc]; omega) (Nat.le_succ _) (by simp only [heap_drw, World.size_alloc]; omega) (by omega) hb9.size rA rB
      go_meet
      case rel => exact ⟨_, _, q9, N9, k9, a9, M9, l9, p9, L9, z9, rfl, rfl, rfl, hj.hza, hj.hzb, hj.ra, hj.rb, hj.nv, hj.pv, hj.b⟩
    · go_wp2_with fail
      have hj := leaf5 (F := Ot nb rv) (wr := wr) hv9 hu9 hbx (Nat.le_refl _) (by simp only [heap_drw, World.size_alloc]; omega) hb9.size rB
      go_meet
      case rel => exact ⟨_, _, q9, N9, k9, a9, M9, l9, p9, L9, z9, rfl, rfl, rfl, hj.hza, hj.hzb, hj.ra, hj.rb, hj.nv, hj.pv, hj.b⟩
    · go_wp2_with fail
      have hj := leaf4 (F := Ot nb rv) (wr := wr) hv9 hu9 hbx (Nat.le_succ _) (by simp only [heap_drw, World.size_alloc]; omega) (Nat.le_refl _) (by simp only [heap_drw, World.size_alloc]; omega) (by omega) hb9.size rA rB
      go_meet
      case rel => exact ⟨_, _, q9, N9, k9, a9, M9, l9, p9, L9, z9, rfl, rfl, rfl, hj.hza, hj.hzb, hj.ra, hj.rb, hj.nv, hj.pv, hj.b⟩
  case rest =>
    obtain ⟨za, zb, q9, N9, k9, a9, M9, l9, p9, L9, z9, rfl, rfl, rfl, hza, hzb, HRA, HRB, HN, HP, HB⟩ := hcut
    have hbc := HB.out.size
    have hbz : b < wc.heap.size := by omega
    have hnz : nb < wc.heap.size := by omega
    have g0 := (bcells HB.out hbb _).trans g0
    have r0 := (bcells HB.out hnbl _).trans r0
    have r1 := (bcells HB.out hnbl _).trans r1
    have HAc := Lib.hid (HA.out.later HB.out)
    clear HC HK g1 g2 g3 g4 r2 r3
    obtain ⟨⟨x0, x1⟩, _, _⟩ := row2_cells HRA.out
    by_cases hE : hapE n m = 0
    rotate_left
    · rw [hap_zero hE] at HN
      have HNz := Lib.hid (hap_zero hE)
      have hEb : (hapE n m != 0) = true := by simp [hE]
      have hcc := check_any _ n wc HAc.out.nv
      rw [chk_ok HSt.out.ok] at hcc
      have KC := Lib.hid hcc
      have KS := Lib.hid (fun (V : World) (hb : Below wc.heap.size wc V) => (by
        have hs := same_any _ _ zero zero V ((HN.out.below hb)) (zero_NV (F := fun _ => True) V)
        rwa [sameN_self] at hs : Calls Try.prog 15 #[nval q9 N9 k9 a9 M9 l9, .agg #[.slice none 0 0, .slice none 0 0]] V (Ret (.bool true) V)))
      have hzA : za < wc.heap.size := lt_of_row HRA.out
      clear g0 hcc hEb
      generalize hapE n m = E at *
      go_wp2_with (first
        | (go_at_call 13; refine KC.out.mono ?_; rintro e V1 ⟨rfl, hV1⟩; have HV1 := Lib.hid hV1; have x0 := (bcells hV1 hzA _).trans x0; have x1 := (bcells hV1 hzA _).trans x1; clear hV1)
        | (go_at_call 15; refine (KS.out _ HV1.out).mono ?_; rintro e V2 ⟨rfl, hV2⟩; have HV2 := Lib.hid (HV1.out.trans (hV2.mono HV1.out.size)); clear hV2))
      go_roundw
      case rel => exact ⟨k + 1, rv, cuts, n, sent, _, _, xs, rfl, by omega, by go_num, rfl, by omega, by omega, HSt, Lib.hid (HAc.out.later HV2.out)⟩
      case measure => simp [intOf]; omega
    · have HH := Lib.hid (hap_of HSt.out (by omega) hE)
      rw [hE]
      have hkb := hok.k
      have hzA : za < wc.heap.size := lt_of_row HRA.out
      have hzB : zb < wc.heap.size := lt_of_row HRB.out
      have h6 := hap_cases m
      have h6' : m.k % 6 = 0 ∨ m.k % 6 = 1 ∨ m.k % 6 = 4 ∨ (m.k % 6 = 2 ∨ m.k % 6 = 3 ∨ m.k % 6 = 5) := by omega
      clear h6 hE r0 r1
      rcases h6' with h6 | h6 | h6 | h6
      · have f4 : ((m.k : Int)).tmod 6 = 0 := by rw [show (6 : Int) = ((6 : Nat) : Int) from rfl, tmod_nat, h6]; rfl
        obtain ⟨x, hx1, hx2⟩ := HH.out.send h6
        have HS2 := Lib.hid hx2
        obtain ⟨q8, N8, k8, a8, M8, l8, hv8, HO, hN1, hN2, _⟩ := HN.out.op
        obtain ⟨rfl, rfl, rfl, rfl, rfl, rfl⟩ : q9 = q8 ∧ N9 = N8 ∧ k9 = k8 ∧ a9 = a8 ∧ M9 = M8 ∧ l9 = l8 := by simpa [nval, and_assoc] using hv8
        have hlen : n.q.length + 1 = N9 := by have := HO.out.nq; rw [hx1] at this; simpa using this
        have hle : n.q.length + 1 ≤ 4096 := by
          have := (okQ_all2 (okN_q2 hx2.ok)).1
          rw [hx1] at this
          simpa using this
        subst hlen
        obtain ⟨b2, o2, f, t, pu, Lu, cu, d, rfl, hb2l, p0, p1, p2, HX, _, _, HW⟩ := HO.out.que.pkAt n.q.length (by rw [hx1]; simp)
        obtain rfl : x = (f, t, d) := by
          have := HX.out.1
          rw [hx1] at this
          simpa using this
        have HXX := Lib.hid (And.intro hx1 hx1)
        generalize hql : n.q.length = j at *
        have hj1 : IntKind.i64.wrap (j : Int) = (j : Int) := by rw [IntKind.wrap_i64]; omega
        have hj2 : IntKind.i64.wrap ((j : Int) + 1 - 1) = (j : Int) := by rw [IntKind.wrap_i64]; omega
        have hj3 : ((j + 1 : Nat) : Int) = (j : Int) + 1 := by omega
        have hj4 : (((j : Int) + 1) == 0) = false := by simp; omega
        clear hx1 hx2 hv8 HXX
        go_wp2_with (first
          | (at_builtin; go_loud (refine wpList_ownN rfl (.tmp 57) (.tmp 66) 22 22 rfl 28 i0 _ 40 Try.underlying22 hi0 hz0 hsz0 (by decide) hby0 rfl _ _ _ rfl (HAc.out.own.alloc _) 1 [.int .i64 f, .int .i64 t, .slice pu Lu cu] rfl ((one_vl ⟨rfl, rfl, rfl⟩).src Try.underlying22) (by unfold maxLen; omega) (by omega) ?_; rintro v5 w5 ho hg hn; have HAP := Lib.hid (HA.out.app hwnb HB.out HN.out (x := (f, t, d)) HW.out.1 HW.out.2 HX.out.2.2 ho hg hn); have cc := grow_keep2 hg hzA (fun e => by have := HA.out.own.lt e; omega) ⟨x0, x1⟩; clear x0 x1 ho hg hn p0 p1 p2 g0; obtain ⟨x0, x1⟩ := cc))
          | (refine nt_store rfl (.tmp 3) (.tmp 98) rfl nb _ _ _ (HAP.out.1.row) rfl rfl rfl ⟨rfl, rfl⟩ ?_; rintro V2 hr2 hc2; have HB2 := Lib.hid (HAP.out.1.put hwnb (Below.refl _ _) hc2 hr2.out (HAP.out.2.wid fun _ _ hb => .inl hb)); clear hc2; obtain ⟨⟨r0, r1⟩, _, _⟩ := row2_cells hr2.out)
          | (go_at_call 13; have hcc := check_any _ (hapN n m) V2 HB2.out.nv; rw [chk_ok HS2.out.ok] at hcc; refine hcc.mono ?_; clear hcc; rintro e V3 ⟨rfl, hV3⟩; have HB3 := Lib.hid (HB2.out.later hV3); clear hV3))
        go_roundw
        case rel => exact ⟨k + 1, v5, cuts, hapN n m, sent ++ [(f, t, d)], _, _, _, rfl, by omega, by go_num, rfl, by omega, by simp; omega, HS2, HB3⟩
        case measure => simp [intOf]; omega
      · have f4 : ((m.k : Int)).tmod 6 = 1 := by rw [show (6 : Int) = ((6 : Nat) : Int) from rfl, tmod_nat, h6]; rfl
        have HS2 := Lib.hid (HH.out.other (by omega) (by omega))
        have HD := Lib.hid (HH.out.del h6)
        obtain ⟨⟨y0, y1, y2⟩, _, _, _⟩ := row3_cells HRB.out
        obtain ⟨pr, cr, hrv, hcr1, hcr2⟩ : ∃ p c, rv = .slice p sent.length c ∧ sent.length ≤ c ∧ c ≤ 9223372036854775807 := by
          rcases HA.out.own with ⟨h1, h2, _⟩ | ⟨g, cap, h1, h2⟩
          · exact ⟨none, 0, by rw [h1, h2], by omega, by omega⟩
          · exact ⟨_, cap, h1, h2.le, by have := h2.mx; unfold maxLen at this; omega⟩
        subst hrv
        generalize hP : hapP n m = P at *
        generalize wc = wp at *
        go_upto_region 21 with fail
        go_cut [10, 50] from 18 to 101 (fun s10 s50 wd => s10 = .bool (sameP P pk0 && decide (0 < (cuts : Int))) ∧ s50 = .int .u8 1 ∧ Hid (Below wp.heap.size wp wd))
        case first =>
          have hs := samep_any _ _ P pk0 wp HP.out (zero_PKV (F := fun _ => True) wp)
          cases hsp : sameP P pk0
          all_goals
            rw [hsp] at hs
            have HSP := Lib.hid hs
            have HSQ := Lib.hid hsp
            clear hs hsp
            go_wp2_with (go_at_call 22; refine HSP.out.mono ?_; rintro e V1 ⟨rfl, hV1⟩)
            go_meet
            case rel => exact ⟨by rw [HSQ.out]; simp, rfl, Lib.hid hV1⟩
        case rest =>
          obtain ⟨rfl, rfl, HBd⟩ := hcut
          generalize wc = wd at *
          generalize hmet : (sameP P pk0 && decide (0 < (cuts : Int))) = met0 at *
          have HMT : Hid (∀ j, sent.length ≤ j → mt met0 sent P j = true) := Lib.hid fun j hj => mt_all hj (by
            rcases HD.out with h | ⟨h1, h2⟩
            · exact .inl h
            · right; rw [← hmet, h1]; simp [sameP]; omega)
          have hbd := HBd.out.size
          have hzAd : za < wd.heap.size := by omega
          have cc := keep2' HBd.out hzA ⟨x0, x1⟩
          clear x0 x1
          obtain ⟨x0, x1⟩ := cc
          have cc := keep3' HBd.out hzB ⟨y0, y1, y2⟩
          clear y0 y1 y2
          obtain ⟨y0, y1, y2⟩ := cc
          have hzBd : zb < wd.heap.size := by omega
          have HAd := Lib.hid (HAc.out.later HBd.out)
          have HPd := Lib.hid (HP.out.below HBd.out)
          have HBw : Hid (Below wr.heap.size wr wd) := Lib.hid (HB.out.trans (HBd.out.mono HB.out.size))
          have HNd := Lib.hid (HN.out.below HBd.out)
          clear hmet HD g0
          go_wp2_with fail
          go_loopw [10, 11] (fun c i wq => ∃ (j : Nat) (bb : Bool), j ≤ sent.length ∧ i = .int .i64 j ∧ c = .bool bb ∧ Hid (bb = mt met0 sent P j) ∧ Hid (Below wd.heap.size wd wq)) (fun _ i _ => sent.length - (intOf i).toNat)
          case atStart => exact ⟨0, met0, by omega, rfl, rfl, Lib.hid (mt_zero _ _ _).symm, Lib.hid (Below.refl _ _)⟩
          obtain ⟨j, bb, hj, rfl, rfl, HM, HBq⟩ := hrel
          by_cases hjs : j < sent.length
          · have hjI : (j : Int) < (sent.length : Int) := by omega
            have hjw : IntKind.i64.wrap ((j : Int) + 1) = (j : Int) + 1 := by rw [IntKind.wrap_i64]; omega
            cases bb
            · obtain ⟨y, g, u, rfl, hg, hy, hp, q0, q1, q2⟩ := HAd.out.at_ j hjs
              obtain ⟨pu, Lu, cu, hpu, _, _, _⟩ := hp.open
              obtain rfl : u = .slice pu Lu cu := by simpa using hpu
              have q0 := (bcells HBq.out hg _).trans q0
              have q1 := (bcells HBq.out hg _).trans q1
              have q2 := (bcells HBq.out hg _).trans q2
              have cc := keep3' HBq.out hzBd ⟨y0, y1, y2⟩
              obtain ⟨z0, z1, z2⟩ := cc
              have KS := samep_any _ _ y P wr.drew (hp.below (drew_bel HBq.out)) (HPd.out.below (drew_bel HBq.out))
              have hM := mt_succ (b := met0) (p := P) hy
              rw [← HM.out, Bool.false_or] at hM
              have HM2 := Lib.hid hM
              generalize sameP y P = sp at *
              have KS := Lib.hid KS
              clear hM hpu
              go_upto_region 25 with fail
              go_region_with (go_at_call 22; refine KS.out.mono ?_; rintro e V1 ⟨rfl, hV1⟩)
              all_goals
                go_wp2_with fail
                go_roundw
                case rel => exact ⟨j + 1, sp, by omega, by go_num, rfl, Lib.hid HM2.out.symm, Lib.hid (HBq.out.trans (((drew_bel (Below.refl _ _)).trans hV1).mono HBq.out.size))⟩
                case measure => simp [intOf]; omega
            · obtain ⟨y, hy⟩ : ∃ y, sent[j]? = some y := ⟨_, List.getElem?_eq_getElem hjs⟩
              have hM := mt_succ (b := met0) (p := P) hy
              rw [← HM.out, Bool.true_or] at hM
              have HM2 := Lib.hid hM
              clear hM
              go_upto_region 25 with fail
              go_quiet (fail)
              go_wp2_with fail
              go_roundw
              case rel => exact ⟨j + 1, true, by omega, by go_num, rfl, Lib.hid HM2.out.symm, Lib.hid (HBq.out.trans ⟨rfl, rfl, rfl, Nat.le_refl _, fun _ _ => rfl⟩)⟩
              case measure => simp [intOf]; omega
          · have hjI : ¬ (j : Int) < (sent.length : Int) := by omega
            obtain rfl : bb = true := HM.out.trans (HMT.out j (by omega))
            have cc := keep2' HBq.out hzAd ⟨x0, x1⟩
            clear x0 x1
            obtain ⟨x0, x1⟩ := cc
            have HAq := Lib.hid (HAd.out.later HBq.out)
            have HBx : Hid (Below wd.heap.size wd wr) := HBq
            have HNq := Lib.hid (HNd.out.below HBq.out)
            have HBwq : Hid (Below _ _ wr) := Lib.hid (HBw.out.trans (HBq.out.mono HBw.out.size))
            clear HBx
            go_wp2_with (first
              | (refine nt_store rfl (.tmp 3) (.tmp 98) rfl nb _ _ _ (HAq.out.row) rfl rfl rfl ⟨rfl, rfl⟩ ?_; rintro V2 hr2 hc2; have HB2 := Lib.hid (HA.out.put hwnb HBwq.out hc2 hr2.out HNq.out); clear hc2; obtain ⟨⟨r0, r1⟩, _, _⟩ := row2_cells hr2.out)
              | (go_at_call 13; have hcc := check_any _ (hapN n m) V2 HB2.out.nv; rw [chk_ok HS2.out.ok] at hcc; refine hcc.mono ?_; clear hcc; rintro e V3 ⟨rfl, hV3⟩; have HB3 := Lib.hid (HB2.out.later hV3); clear hV3))
            go_roundw
            case rel => exact ⟨k + 1, _, cuts, hapN n m, sent, _, _, xs, rfl, by omega, by go_num, rfl, by omega, by omega, HS2, HB3⟩
            case measure => simp [intOf]; omega
      · have f4 : ((m.k : Int)).tmod 6 = 4 := by rw [show (6 : Int) = ((6 : Nat) : Int) from rfl, tmod_nat, h6]; rfl
        have HS2 : Hid (Snt (hapN n m) sent ((cuts + 1 : Nat) : Int)) := Lib.hid (by rw [show ((cuts + 1 : Nat) : Int) = (cuts : Int) + 1 by omega]; exact HH.out.cut h6)
        go_wp2_with (first
          | (refine nt_store rfl (.tmp 3) (.tmp 98) rfl nb _ _ _ (HAc.out.row) rfl rfl rfl ⟨rfl, rfl⟩ ?_; rintro V2 hr2 hc2; have HB2 := Lib.hid (HA.out.put hwnb HB.out hc2 hr2.out HN.out); clear hc2; obtain ⟨⟨r0, r1⟩, _, _⟩ := row2_cells hr2.out)
          | (go_at_call 13; have hcc := check_any _ (hapN n m) V2 HB2.out.nv; rw [chk_ok HS2.out.ok] at hcc; refine hcc.mono ?_; clear hcc; rintro e V3 ⟨rfl, hV3⟩; have HB3 := Lib.hid (HB2.out.later hV3); clear hV3))
        go_roundw
        case rel => exact ⟨k + 1, rv, cuts + 1, hapN n m, sent, _, _, xs, rfl, by omega, by go_num, by go_num, by omega, by omega, HS2, HB3⟩
        case measure => simp [intOf]; omega
      · have f4 : ((m.k : Int)).tmod 6 = 2 ∨ ((m.k : Int)).tmod 6 = 3 ∨ ((m.k : Int)).tmod 6 = 5 := by
          rw [show (6 : Int) = ((6 : Nat) : Int) from rfl, tmod_nat]; omega
        have HS2 := Lib.hid (HH.out.other (by omega) (by omega))
        rcases f4 with f4 | f4 | f4
        all_goals
          go_wp2_with (first
            | (refine nt_store rfl (.tmp 3) (.tmp 98) rfl nb _ _ _ (HAc.out.row) rfl rfl rfl ⟨rfl, rfl⟩ ?_; rintro V2 hr2 hc2; have HB2 := Lib.hid (HA.out.put hwnb HB.out hc2 hr2.out HN.out); clear hc2; obtain ⟨⟨r0, r1⟩, _, _⟩ := row2_cells hr2.out)
            | (go_at_call 13; have hcc := check_any _ (hapN n m) V2 HB2.out.nv; rw [chk_ok HS2.out.ok] at hcc; refine hcc.mono ?_; clear hcc; rintro e V3 ⟨rfl, hV3⟩; have HB3 := Lib.hid (HB2.out.later hV3); clear hV3))
          go_roundw
          case rel => exact ⟨k + 1, rv, cuts, hapN n m, sent, _, _, xs, rfl, by omega, by go_num, rfl, by omega, by omega, HS2, HB3⟩
          case measure => simp [intOf]; omega
end Go.Proofs.Ytpempgajejbdoaa
