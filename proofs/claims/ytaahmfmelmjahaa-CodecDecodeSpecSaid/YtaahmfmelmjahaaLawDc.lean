/-
  CodecDecodeSpec's own body: it returns true.
-/
import Derived.Test.YtaahmfmelmjahaaDcx
import Derived.Test.YtaahmfmelmjahaaLawRt
import Derived.Deep.RegionHeld3
import Derived.Deep.CutRange
import Derived.Test.YtaahmfmelmjahaaDcd
import Derived.Test.YtaahmfmelmjahaaRdl
import Derived.Test.YtaahmfmelmjahaaDcz
import Derived.Test.YtaahmfmelmjahaaRe4
import Derived.Test.YtaahmfmelmjahaaSame
namespace Go.Proofs.Ytaahmfmelmjahaa
open Go Go.RowKit
/-- the reader at g: its bytes, how many were read, and whether it is bad -/
def RS (w : World) (g : Nat) (p : Option Addr) (N c a : Nat) (bad : Bool) : Prop := w.heap[g]? = some (.cells #[.slice p N c, .int .i64 (a : Int), .bool bad] 60 (0, 0))
theorem RS.lt {w : World} {g : Nat} {p : Option Addr} {N c a : Nat} {bad : Bool} (h : RS w g p N c a bad) : g < w.heap.size := (Array.getElem?_eq_some_iff.1 h).1
theorem RS.below {w w' : World} {g : Nat} {p : Option Addr} {N c a : Nat} {bad : Bool} (h : RS w g p N c a bad) (hb : Below w.heap.size w w') : RS w' g p N c a bad := (hb.block g h.lt).trans h
theorem RS.cells {w : World} {g : Nat} {p : Option Addr} {N c a : Nat} {bad : Bool} (h : RS w g p N c a bad) : w.cell? ⟨g, 0, none⟩ = some (.slice p N c) ∧ w.cell? ⟨g, 1, none⟩ = some (.int .i64 (a : Int)) ∧ w.cell? ⟨g, 2, none⟩ = some (.bool bad) ∧ (∀ o, w.frozen? ⟨g, o, none⟩ = false) := by
  unfold RS at h
  refine ⟨by simp [World.cell?, h], by simp [World.cell?, h], by simp [World.cell?, h], fun o => by simp [World.frozen?, h]⟩
theorem RS.set1 {w : World} {g : Nat} {p : Option Addr} {N c a : Nat} {bad : Bool} (h : RS w g p N c a bad) (x : Nat) : RS (w.setCell ⟨g, 1, none⟩ (.int .i64 (x : Int))) g p N c x bad := by
  unfold RS at h ⊢
  simp [World.setCell, Array.getElem?_modify, h]
theorem RS.set2 {w : World} {g : Nat} {p : Option Addr} {N c a : Nat} {bad : Bool} (h : RS w g p N c a bad) (x : Bool) : RS (w.setCell ⟨g, 2, none⟩ (.bool x)) g p N c a x := by
  unfold RS at h ⊢
  simp [World.setCell, Array.getElem?_modify, h]
theorem chg_set' (g o : Nat) (w : World) (v : Value) : Chg g w (w.setCell ⟨g, o, none⟩ v) :=
  ⟨rfl, rfl, rfl, by simp [World.setCell], fun k _ hk => Below.heap_setCell _ _ _ _ hk⟩
theorem chg_drew (g : Nat) (w : World) : Chg g w w.drew := ⟨rfl, rfl, rfl, Nat.le_refl _, fun _ _ _ => rfl⟩
/-- the byte is next -/
def RNxt (g : Nat) (p : Option Addr) (N c a : Nat) (bad : Bool) (x : UInt8) (w : World) (e : Ending) (w' : World) : Prop := e = .returned (.int .u8 (x.toNat : Int)) ∧ RS w' g p N c a bad ∧ Chg g w w'
set_option maxHeartbeats 1000000 in
theorem rnext_yes (g b : Nat) (p : Option Addr) (N c a : Nat) (bad : Bool) (x : UInt8) (l : List UInt8) (w : World) (hs : RS w g p N c a bad) (hb : Bts w g b p l) (hl : l.length = N) (hx : l[a]? = some x) (hN : N ≤ 1099511627776) :
    Calls Try.prog 53 #[.pointer (some ⟨g, 0, none⟩)] w (RNxt g p N c (a + 1) bad x w) := by
  have ha : a < N := by have := (List.getElem?_eq_some_iff.1 hx).1; omega
  obtain ⟨o, rfl, hbg, hbl, hcc⟩ : ∃ o, p = some ⟨b, o, none⟩ ∧ b ≠ g ∧ b < w.heap.size ∧ ∀ (j : Nat) (c : UInt8), l[j]? = some c → w.cell? ⟨b, o + j, none⟩ = some (byt c) := by
    rcases hb with rfl | h
    · simp at hx
    · exact h
  have y0 : w.cell? ⟨b, o + a, none⟩ = some (.int .u8 (x.toNat : Int)) := hcc a x hx
  obtain ⟨g0, g1, g2, gf⟩ := hs.cells
  have f1 := gf 1
  have c1 : ¬ (N : Int) ≤ (a : Int) := by omega
  have c2 : (a : Int) < (N : Int) := by omega
  have hlt := hs.lt
  have HS := Lib.hid hs
  clear hs hb hcc gf
  go_enter Try.func53, Try.ntmps53
  go_upto_region 1 with fail
  go_region_held3 (fun w' => w'.cell? ⟨g, 0, none⟩ = some (.slice (some ⟨b, o, none⟩) N c) ∧ w'.cell? ⟨g, 1, none⟩ = some (.int .i64 (a : Int))) (go_keep) (fail)
  go_upto_region 5 with fail
  have hs2 : RS (w.setCell ⟨g, 1, none⟩ (.int .i64 ((a : Int) + 1))).drew g (some ⟨b, o, none⟩) N c (a + 1) bad := RS.set1 HS.out (a + 1)
  have hc2' : Chg g w (w.setCell ⟨g, 1, none⟩ (.int .i64 ((a : Int) + 1))).drew := (chg_set' g 1 w _).trans (chg_drew g _)
  have y1 : (w.setCell ⟨g, 1, none⟩ (.int .i64 ((a : Int) + 1))).drew.cell? ⟨b, o + a, none⟩ = some (.int .u8 (x.toNat : Int)) := (World.cell?_of_block (w := w) (a := ⟨b, o + a, none⟩) (hc2'.block b hbl hbg)).trans y0
  have HS2 := Lib.hid hs2
  have HC2 := Lib.hid hc2'
  clear g0 g1 g2 f1 y0 hs2 hc2'
  generalize (w.setCell ⟨g, 1, none⟩ (.int .i64 ((a : Int) + 1))).drew = W1 at *
  obtain ⟨h0, h1, h2, _⟩ := HS2.out.cells
  have h1' : W1.cell? ⟨g, 1, none⟩ = some (.int .i64 ((a : Int) + 1)) := h1
  have c3 : ((a : Int) + 1 - 1) = (a : Int) := by omega
  have c4 : IntKind.i64.wrap (a : Int) = (a : Int) := IntWalk.i64_in _ (by omega)
  have c5 : (0 : Int) ≤ (a : Int) := by omega
  clear h1
  go_region_held3 (fun w' => w'.cell? ⟨g, 0, none⟩ = some (.slice (some ⟨b, o, none⟩) N c) ∧ w'.cell? ⟨g, 1, none⟩ = some (.int .i64 ((a : Int) + 1)) ∧ w'.cell? ⟨b, o + a, none⟩ = some (.int .u8 (x.toNat : Int))) (go_keep) (fail)
  go_wp2_with fail
  go_ret
  exact ⟨rfl, HS2.out, HC2.out.trans (chg_drew g _)⟩
set_option maxHeartbeats 1000000 in
theorem rnext_no (g : Nat) (p : Option Addr) (N c a : Nat) (bad : Bool) (w : World) (hs : RS w g p N c a bad) (ha : N ≤ a) :
    Calls Try.prog 53 #[.pointer (some ⟨g, 0, none⟩)] w (RNxt g p N c a true 0 w) := by
  obtain ⟨g0, g1, g2, gf⟩ := hs.cells
  have f2 := gf 2
  have c1 : (N : Int) ≤ (a : Int) := by omega
  have HS := Lib.hid hs
  clear hs gf
  go_enter Try.func53, Try.ntmps53
  go_upto_region 1 with fail
  go_region_held3 (fun w' => w'.cell? ⟨g, 0, none⟩ = some (.slice p N c) ∧ w'.cell? ⟨g, 1, none⟩ = some (.int .i64 (a : Int))) (go_keep) (fail)
  go_wp2_with fail
  go_ret
  exact ⟨rfl, RS.set2 HS.out true, (chg_set' g 2 w _).trans (chg_drew g _)⟩
end Go.Proofs.Ytaahmfmelmjahaa
namespace Go.Proofs.Ytaahmfmelmjahaa
open Go Go.RowKit
/-- a number, or a reader that is bad -/
def RNum (g : Nat) (p : Option Addr) (N c : Nat) (l : List UInt8) (w : World) (e : Ending) (w' : World) : Prop :=
  match dnum l with
  | some (u, r) => e = .returned (.int .u64 (u : Int)) ∧ RS w' g p N c (N - r.length) false ∧ Chg g w w'
  | none => e = .returned (.int .u64 0) ∧ (∃ a, RS w' g p N c a true) ∧ Chg g w w'
def Inv (l : List UInt8) (i acc : Nat) (l' : List UInt8) : Prop := dnum l = match dnumF (9 - i) (decide (i = 0)) l' with | some (y, r) => some (acc + y * 128 ^ i, r) | none => none
theorem inv_start (l : List UInt8) : Inv l 0 0 l := by
  unfold Inv dnum
  simp only [Nat.sub_zero, decide_true, Nat.pow_zero, Nat.mul_one, Nat.zero_add]
  cases dnumF 9 true l with
  | none => rfl
  | some x => obtain ⟨y, r⟩ := x; rfl
theorem inv_done {L r : List UInt8} {i acc : Nat} {x : UInt8} (h : Inv L i acc (x :: r)) (hi : i < 9) (hx : x.toNat < 128) (h0 : 0 < x.toNat ∨ i = 0) : dnum L = some (acc + x.toNat * 128 ^ i, r) := by
  unfold Inv at h
  obtain ⟨f, hf⟩ : ∃ f, 9 - i = f + 1 := ⟨8 - i, by omega⟩
  rw [hf] at h
  unfold dnumF at h
  rw [if_pos hx, if_pos (by simpa using h0)] at h
  exact h
theorem inv_bad {L r : List UInt8} {i acc : Nat} {x : UInt8} (h : Inv L i acc (x :: r)) (hi : 0 < i) (hx : x.toNat = 0) : dnum L = none := by
  unfold Inv at h
  have hd : decide (i = 0) = false := by simp; omega
  rw [hd] at h
  cases hf : 9 - i with
  | zero =>
    rw [hf] at h
    unfold dnumF at h
    rw [if_pos (by omega), if_neg (by simp [hx])] at h
    exact h
  | succ f =>
    rw [hf] at h
    unfold dnumF at h
    rw [if_pos (by omega), if_neg (by simp [hx])] at h
    exact h
theorem inv_big {L r : List UInt8} {acc : Nat} {x : UInt8} (h : Inv L 9 acc (x :: r)) (hx : 1 < x.toNat) : dnum L = none := by
  unfold Inv at h
  rw [Nat.sub_self] at h
  unfold dnumF at h
  rw [if_neg (by omega)] at h
  exact h
theorem inv_last {L r : List UInt8} {acc : Nat} {x : UInt8} (h : Inv L 9 acc (x :: r)) (hx : x.toNat = 1) : dnum L = some (acc + x.toNat * 128 ^ 9, r) := by
  unfold Inv at h
  rw [Nat.sub_self] at h
  unfold dnumF at h
  rw [if_pos (by omega), if_pos (by simp [hx])] at h
  exact h
theorem inv_eof {L : List UInt8} {i acc : Nat} (h : Inv L i acc []) : dnum L = none := by
  unfold Inv at h
  unfold dnumF at h
  exact h
theorem inv_more {L r : List UInt8} {i acc : Nat} {x : UInt8} (h : Inv L i acc (x :: r)) (hi : i < 9) (hx : 128 ≤ x.toNat) : Inv L (i + 1) (acc + x.toNat % 128 * 128 ^ i) r := by
  unfold Inv at h ⊢
  obtain ⟨f, hf⟩ : ∃ f, 9 - i = f + 1 := ⟨8 - i, by omega⟩
  have hf2 : 9 - (i + 1) = f := by omega
  have hd : decide (i + 1 = 0) = false := by simp
  rw [hf] at h
  unfold dnumF at h
  rw [if_neg (by omega)] at h
  rw [hf2, hd, h]
  cases dnumF f false r with
  | none => rfl
  | some y =>
    obtain ⟨y, r'⟩ := y
    simp only [Option.some.injEq, Prod.mk.injEq, and_true]
    rw [Nat.add_mul, Nat.pow_succ, Nat.add_assoc, Nat.mul_comm 128 y, Nat.mul_assoc, Nat.mul_comm 128]
theorem RNum.some {g N c a u : Nat} {p : Option Addr} {l r : List UInt8} {w w' : World} {e : Ending} (h : dnum l = Option.some (u, r)) (he : e = .returned (.int .u64 (u : Int))) (hs : RS w' g p N c a false) (ha : a = N - r.length) (hc : Chg g w w') : RNum g p N c l w e w' := by
  unfold RNum
  rw [h]
  exact ⟨he, by rw [← ha]; exact hs, hc⟩
theorem RNum.none {g N c a : Nat} {p : Option Addr} {l : List UInt8} {w w' : World} {e : Ending} (h : dnum l = Option.none) (he : e = .returned (.int .u64 0)) (hs : RS w' g p N c a true) (hc : Chg g w w') : RNum g p N c l w e w' := by
  unfold RNum
  rw [h]
  exact ⟨he, ⟨_, hs⟩, hc⟩
theorem drop_next {l : List UInt8} {a : Nat} {x : UInt8} (h : l[a]? = some x) : l.drop a = x :: l.drop (a + 1) := by
  obtain ⟨h1, h2⟩ := List.getElem?_eq_some_iff.1 h
  rw [List.drop_eq_getElem_cons h1, h2]
set_option maxRecDepth 100000 in
set_option maxHeartbeats 2000000 in
theorem rnumber_any (g b : Nat) (p : Option Addr) (N c a : Nat) (l : List UInt8) (w : World) (hs : RS w g p N c a false) (hb : Bts w g b p l) (hl : l.length = N) (hN : N ≤ 1099511627776) (ha : a ≤ N) :
    Calls Try.prog 54 #[.pointer (some ⟨g, 0, none⟩)] w (RNum g p N c (l.drop a) w) := by
  have HS := Lib.hid hs
  have HB := Lib.hid hb
  have HY := Lib.hid (fun (a : Nat) (x : UInt8) (W : World) (h : RS W g p N c a false) (hb : Bts W g b p l) (hx : l[a]? = some x) => rnext_yes g b p N c a false x l W h hb hl hx hN)
  have HNO := Lib.hid (fun (a : Nat) (W : World) (h : RS W g p N c a false) (ha : N ≤ a) => rnext_no g p N c a false W h ha)
  have HL := Lib.hid hl
  clear hs hb hl
  go_enter Try.func54, Try.ntmps54
  go_wp2_with fail
  go_loopw [3, 4] (fun n i wr => ∃ i' acc a' : Nat, n = .int .u64 (acc : Int) ∧ i = .int .i64 (i' : Int) ∧ i' ≤ 9 ∧ acc < 128 ^ i' ∧ a' ≤ N ∧ Hid (RS wr g p N c a' false) ∧ Hid (Inv (l.drop a) i' acc (l.drop a')) ∧ Hid (Chg g w wr)) (fun _ i _ => 10 - (intOf i).toNat)
  case atStart => exact ⟨0, 0, a, rfl, rfl, by omega, by omega, ha, HS, Lib.hid (inv_start _), Lib.hid (Chg.refl g w)⟩
  case round =>
    obtain ⟨i, acc, a', rfl, rfl, hi, hacc, ha', HS2, HI, HC⟩ := hrel
    obtain ⟨g0, g1, g2, _⟩ := HS2.out.cells
    have HB2 := Lib.hid (HB.out.chg HC.out)
    clear g0 g1
    by_cases hx : a' < N
    · obtain ⟨x, hxx⟩ : ∃ x, l[a']? = some x := ⟨_, List.getElem?_eq_getElem (by rw [HL.out]; exact hx)⟩
      have HX := Lib.hid hxx
      clear hxx
      go_upto_region 6 with (go_at_call 53; refine (HY.out a' x _ HS2.out HB2.out HX.out).mono ?_; rintro e w1 ⟨rfl, hs1, hc1⟩; have HS3 := Lib.hid hs1; have HC3 := Lib.hid (HC.out.trans hc1); clear hs1 hc1)
      have hx256 := x.toNat_lt
      have HI2 := Lib.hid (show Inv (l.drop a) i acc (x :: l.drop (a' + 1)) by rw [← drop_next HX.out]; exact HI.out)
      have hlen : (l.drop (a' + 1)).length = N - (a' + 1) := by rw [List.length_drop, HL.out]
      have haN : a' + 1 = N - (l.drop (a' + 1)).length := by omega
      obtain ⟨g0, g1, g2, gf⟩ := HS3.out.cells
      have f2 := gf 2
      clear g0 g1 gf HI
      by_cases h9 : i = 9
      · subst h9
        by_cases hx1 : 1 < x.toNat
        · have k3 : (1 : Int) < (x.toNat : Int) := by omega
          go_wp2_with fail
          go_ret
          exact RNum.none (inv_big HI2.out hx1) rfl (HS3.out.set2 true) (HC3.out.trans (chg_set' g 2 w1 _))
        · by_cases hx0 : x.toNat = 0
          · have k2 : (x.toNat : Int) = 0 := by omega
            have k3 : ¬ (1 : Int) < (x.toNat : Int) := by omega
            go_wp2_with fail
            go_ret
            exact RNum.none (inv_bad HI2.out (by omega) hx0) rfl (HS3.out.set2 true) (HC3.out.trans (chg_set' g 2 w1 _))
          · have hx1' : x.toNat = 1 := by omega
            have k3 : ¬ (1 : Int) < (x.toNat : Int) := by omega
            have hd := inv_last HI2.out hx1'
            have hp9 : (128 : Nat) ^ 9 = 9223372036854775808 := by decide
            have hacc2 : acc < 9223372036854775808 := by omega
            rw [hx1'] at hd ⊢
            have HD := Lib.hid hd
            clear hd
            go_wp2_with fail
            go_ret
            refine RNum.some HD.out ?_ HS3.out haN HC3.out
            congr 2
      · have hi8 : i < 9 := by omega
        have k1 : ¬ (i : Int) = 9 := by omega
        have hic : i = 0 ∨ i = 1 ∨ i = 2 ∨ i = 3 ∨ i = 4 ∨ i = 5 ∨ i = 6 ∨ i = 7 ∨ i = 8 := by omega
        by_cases hx0 : x.toNat = 0
        · have k2 : (x.toNat : Int) = 0 := by omega
          by_cases hi0 : i = 0
          · subst hi0
            have hd := inv_done HI2.out (by omega) (by omega) (.inr rfl)
            rw [hx0] at hd ⊢
            have HD := Lib.hid hd
            clear hd
            go_wp2_with fail
            go_ret
            exact RNum.some HD.out (by congr 2 <;> simp) HS3.out haN HC3.out
          · have ki : (0 : Int) < (i : Int) := by omega
            go_wp2_with fail
            go_ret
            exact RNum.none (inv_bad HI2.out (by omega) hx0) rfl (HS3.out.set2 true) (HC3.out.trans (chg_set' g 2 w1 _))
        · have k2 : ¬ (x.toNat : Int) = 0 := by omega
          by_cases hx1 : x.toNat < 128
          · have k3 : (x.toNat : Int) < 128 := by omega
            have hm : (x.toNat : Int) % 128 = (x.toNat : Int) := by omega
            have hd := inv_done HI2.out hi8 hx1 (.inl (by omega))
            have HD := Lib.hid hd
            clear hd
            rcases hic with rfl | rfl | rfl | rfl | rfl | rfl | rfl | rfl | rfl
            all_goals
              go_wp2_with fail
              go_ret
              exact RNum.some HD.out (by congr 2 <;> first | (simp; done) | (simp; omega)) HS3.out haN HC3.out
          · have k3 : ¬ (x.toNat : Int) < 128 := by omega
            have HD := Lib.hid (inv_more HI2.out hi8 (by omega))
            have hxm : x.toNat % 128 < 128 := Nat.mod_lt _ (by omega)
            rcases hic with rfl | rfl | rfl | rfl | rfl | rfl | rfl | rfl | rfl
            all_goals
              go_wp2_with fail
              go_roundw
              case rel => exact ⟨_, _, a' + 1, by congr 1 <;> simp, by go_num, by omega, by omega, hx, HS3, HD, HC3⟩
              case measure => simp [intOf]
    · have he : l.drop a' = [] := List.drop_eq_nil_of_le (by rw [HL.out]; omega)
      have hd := HI.out
      rw [he] at hd
      have HD := Lib.hid (inv_eof hd)
      have hic : i = 0 ∨ i = 9 ∨ (0 < i ∧ i < 9) := by omega
      clear hd he
      rcases hic with rfl | rfl | ⟨hi1, hi2⟩
      · go_upto_region 6 with (go_at_call 53; refine (HNO.out a' _ HS2.out (by omega)).mono ?_; rintro e w1 ⟨rfl, hs1, hc1⟩; have HS3 := Lib.hid hs1; have HC3 := Lib.hid (HC.out.trans hc1); clear hs1 hc1)
        obtain rfl : acc = 0 := by simpa using hacc
        go_wp2_with fail
        go_ret
        exact RNum.none HD.out rfl HS3.out HC3.out
      · go_upto_region 6 with (go_at_call 53; refine (HNO.out a' _ HS2.out (by omega)).mono ?_; rintro e w1 ⟨rfl, hs1, hc1⟩; have HS3 := Lib.hid hs1; have HC3 := Lib.hid (HC.out.trans hc1); clear hs1 hc1)
        obtain ⟨g0, g1, g2, gf⟩ := HS3.out.cells
        have f2 := gf 2
        clear g0 g1 gf
        go_wp2_with fail
        go_ret
        exact RNum.none HD.out rfl (HS3.out.set2 true) (HC3.out.trans (chg_set' g 2 w1 _))
      · have ki : (0 : Int) < (i : Int) := by omega
        have k9 : ¬ (i : Int) = 9 := by omega
        go_upto_region 6 with (go_at_call 53; refine (HNO.out a' _ HS2.out (by omega)).mono ?_; rintro e w1 ⟨rfl, hs1, hc1⟩; have HS3 := Lib.hid hs1; have HC3 := Lib.hid (HC.out.trans hc1); clear hs1 hc1)
        obtain ⟨g0, g1, g2, gf⟩ := HS3.out.cells
        have f2 := gf 2
        clear g0 g1 gf
        go_wp2_with fail
        go_ret
        exact RNum.none HD.out rfl (HS3.out.set2 true) (HC3.out.trans (chg_set' g 2 w1 _))
end Go.Proofs.Ytaahmfmelmjahaa
namespace Go.Proofs.Ytaahmfmelmjahaa
open Go Go.RowKit
/-- a value, or a reader that is bad -/
def RVal (g : Nat) (p : Option Addr) (N c d : Nat) (l : List UInt8) (w : World) (e : Ending) (w' : World) : Prop :=
  match decv d l with
  | some x => ∃ L, e = .returned (val x.k x.n x.s L) ∧ Okv x.k x.n x.s ∧ Sl (Cut (old w.heap.size) w') L x.q ∧ RS w' g p N c (N - x.r.length) false ∧ Chg g w w'
  | none => ∃ k n s q m z, e = .returned (val k n s (.slice q m z)) ∧ (∃ a, RS w' g p N c a true) ∧ Chg g w w'
theorem RVal.none {g N c d a : Nat} {p : Option Addr} {l : List UInt8} {w w' : World} {e : Ending} {k n : Int} {s : ByteArray} {q : Option Addr} {m z : Nat} (h : decv d l = Option.none) (he : e = .returned (val k n s (.slice q m z))) (hs : RS w' g p N c a true) (hc : Chg g w w') : RVal g p N c d l w e w' := by
  unfold RVal
  rw [h]
  exact ⟨k, n, s, q, m, z, he, ⟨_, hs⟩, hc⟩
theorem RVal.some {g N c d a : Nat} {p : Option Addr} {l : List UInt8} {w w' : World} {e : Ending} {x : Got} {L : Value} (h : decv d l = Option.some x) (he : e = .returned (val x.k x.n x.s L)) (ho : Okv x.k x.n x.s) (hL : Sl (Cut (old w.heap.size) w') L x.q) (hs : RS w' g p N c a false) (ha : a = N - x.r.length) (hc : Chg g w w') : RVal g p N c d l w e w' := by
  unfold RVal
  rw [h]
  exact ⟨L, he, ho, hL, by rw [← ha]; exact hs, hc⟩
theorem RS.other {w w' : World} {g k : Nat} {p : Option Addr} {N c a : Nat} {bad : Bool} (h : RS w g p N c a bad) (hk : g ≠ k) (hc : Chg k w w') : RS w' g p N c a bad := (hc.block g h.lt hk).trans h
theorem RS.four {w : World} {g k : Nat} {p : Option Addr} {N c a : Nat} {bad : Bool} (h : RS w g p N c a bad) (hk : k ≠ g) (x y z u : Value) : RS ((((w.setCell ⟨k, 0, none⟩ x).setCell ⟨k, 1, none⟩ y).setCell ⟨k, 2, none⟩ z).setCell ⟨k, 3, none⟩ u) g p N c a bad := by
  have hn : g ≠ k := fun e => hk e.symm
  exact ((((h.other hn (chg_set' k 0 w x)).other hn (chg_set' k 1 _ y)).other hn (chg_set' k 2 _ z)).other hn (chg_set' k 3 _ u))
theorem Chg.four {g k : Nat} {w w' : World} (h : Chg g w w') (hk : w.heap.size ≤ k) (x y z u : Value) : Chg g w ((((w'.setCell ⟨k, 0, none⟩ x).setCell ⟨k, 1, none⟩ y).setCell ⟨k, 2, none⟩ z).setCell ⟨k, 3, none⟩ u) := (((h.set hk _).set hk _).set hk _).set hk _
theorem slc_nil (w : World) : Sl w (.slice none 0 0) .nil := .inl ⟨none, 0, rfl, rfl⟩
set_option maxRecDepth 100000 in
set_option maxHeartbeats 1000000 in
theorem rval_int (g b : Nat) (p : Option Addr) (N c a d : Nat) (x : UInt8) (l : List UInt8) (w : World) (D : Int) (hs : RS w g p N c a false) (hb : Bts w g b p l) (hl : l.length = N) (hN : N ≤ 1099511627776) (hx : l[a]? = some x) (h1 : x.toNat = 1) :
    Calls Try.prog 37 #[.pointer (some ⟨g, 0, none⟩), .int .i64 D] w (RVal g p N c d (l.drop a) w) := by
  have hlt := hs.lt
  have ha : a < N := by have := (List.getElem?_eq_some_iff.1 hx).1; omega
  have hd : decv d (l.drop a) = match dnum (l.drop (a + 1)) with | none => none | some (u, r) => some ⟨1, sgn u, ByteArray.empty, .nil, r⟩ := by
    rw [drop_next hx]
    cases d <;> (unfold decv; rw [if_pos h1]; cases dnum (l.drop (a + 1)) <;> rfl)
  have H1 := Lib.hid (fun (o : Obj) => rnext_yes g b p N c a false x l (w.alloc o) (hs.below (one_new w o)) (hb.chg (Chg.refl g (w.alloc o)).alloc) hl hx hN)
  have H2 := Lib.hid (fun (W : World) (h : RS W g p N c (a + 1) false) (hc : Chg g w W) => rnumber_any g b p N c (a + 1) l W h (hb.chg hc) hl hN (by omega))
  have HD := Lib.hid hd
  have hx1 : (x.toNat : Int) = 1 := by omega
  clear hs hb hd hx
  go_enter Try.func37, Try.ntmps37
  go_wp2_with fail
  refine (H1.out _).mono ?_
  rintro e w1 ⟨rfl, hs1, hc1⟩
  have hr := hc1.block w.heap.size (by simp) (by omega)
  rw [heap_alloc_new] at hr
  have HR1 := Lib.hid hr
  have HC1 := Lib.hid hc1.alloc
  have HS1 := Lib.hid hs1
  clear hr hc1 hs1
  go_wp2_with fail
  refine (H2.out _ HS1.out HC1.out).mono ?_
  rintro e w2 hn
  have hz1 := HC1.out.size
  have hzz : w.heap.size < w1.heap.size := (Array.getElem?_eq_some_iff.1 HR1.out).1
  unfold RNum at hn
  have hgn : w.heap.size ≠ g := by omega
  cases hdn : dnum (l.drop (a + 1)) with
  | none =>
    rw [hdn] at hn
    obtain ⟨rfl, ⟨a2, hs2⟩, hc2⟩ := hn
    have hr2 := (hc2.block w.heap.size hzz hgn).trans HR1.out
    have z0 : w2.cell? ⟨w.heap.size, 0, none⟩ = some (.int .i64 0) := by simp [World.cell?, hr2]
    have z1 : w2.cell? ⟨w.heap.size, 1, none⟩ = some (.int .i64 0) := by simp [World.cell?, hr2]
    have z2 : w2.cell? ⟨w.heap.size, 2, none⟩ = some (.string ByteArray.empty) := by simp only [World.cell?, hr2]; rfl
    have z3 : w2.cell? ⟨w.heap.size, 3, none⟩ = some (.slice none 0 0) := by simp [World.cell?, hr2]
    have f0 : ∀ o, w2.frozen? ⟨w.heap.size, o, none⟩ = false := fun o => by simp [World.frozen?, hr2]
    have hD : decv d (l.drop a) = none := by rw [HD.out, hdn]
    have HDD := Lib.hid hD
    have HS2 := Lib.hid hs2
    have HC2 := Lib.hid (HC1.out.trans hc2)
    have HR2 := Lib.hid hr2
    clear hD hdn hs2 hc2 hr2 HD H2
    go_wp2_with fail
    exact bodyPost_ret (results_cell_row rfl _ _ w.heap.size 24 _ (0, 0) _ rfl (set_four HR2.out) Try.underlying24 rfl (by kernel_rfl)) rfl (RVal.none HDD.out rfl (HS2.out.four hgn _ _ _ _) (HC2.out.four (Nat.le_refl _) _ _ _ _))
  | some ur =>
    obtain ⟨u, r⟩ := ur
    rw [hdn] at hn
    obtain ⟨rfl, hs2, hc2⟩ := hn
    have hu := (dnum_only hdn).2
    have hr2 := (hc2.block w.heap.size hzz hgn).trans HR1.out
    have z0 : w2.cell? ⟨w.heap.size, 0, none⟩ = some (.int .i64 0) := by simp [World.cell?, hr2]
    have z1 : w2.cell? ⟨w.heap.size, 1, none⟩ = some (.int .i64 0) := by simp [World.cell?, hr2]
    have z2 : w2.cell? ⟨w.heap.size, 2, none⟩ = some (.string ByteArray.empty) := by simp only [World.cell?, hr2]; rfl
    have z3 : w2.cell? ⟨w.heap.size, 3, none⟩ = some (.slice none 0 0) := by simp [World.cell?, hr2]
    have f0 : ∀ o, w2.frozen? ⟨w.heap.size, o, none⟩ = false := fun o => by simp [World.frozen?, hr2]
    have hD : decv d (l.drop a) = some ⟨1, sgn u, ByteArray.empty, .nil, r⟩ := by rw [HD.out, hdn]
    have HDD := Lib.hid hD
    have HS2 := Lib.hid hs2
    have HC2 := Lib.hid (HC1.out.trans hc2)
    have HR2 := Lib.hid hr2
    have HOK : Hid (Okv 1 (sgn u) ByteArray.empty) := Lib.hid ⟨by unfold W64; omega, sgn_w64 hu, by simp [maxLen]⟩
    clear hD hdn hs2 hc2 hr2 HD H2
    by_cases hu2 : u % 2 = 1
    · have hsg : sgn u = -((u / 2 : Nat) : Int) - 1 := by unfold sgn; rw [if_neg (by omega)]
      have k1 : (u : Int) % 2 = 1 := by omega
      rw [hsg] at HDD HOK
      go_wp2_with fail
      exact bodyPost_ret (results_cell_row rfl _ _ w.heap.size 24 _ (0, 0) _ rfl (set_four HR2.out) Try.underlying24 rfl (by kernel_rfl)) rfl (RVal.some HDD.out rfl HOK.out (slc_nil _) (HS2.out.four hgn _ _ _ _) rfl (HC2.out.four (Nat.le_refl _) _ _ _ _))
    · have hsg : sgn u = ((u / 2 : Nat) : Int) := by unfold sgn; rw [if_pos (by omega)]
      have k1 : ¬ (u : Int) % 2 = 1 := by omega
      rw [hsg] at HDD HOK
      go_wp2_with fail
      exact bodyPost_ret (results_cell_row rfl _ _ w.heap.size 24 _ (0, 0) _ rfl (set_four HR2.out) Try.underlying24 rfl (by kernel_rfl)) rfl (RVal.some HDD.out rfl HOK.out (slc_nil _) (HS2.out.four hgn _ _ _ _) rfl (HC2.out.four (Nat.le_refl _) _ _ _ _))
end Go.Proofs.Ytaahmfmelmjahaa
namespace Go.Proofs.Ytaahmfmelmjahaa
open Go Go.RowKit
theorem take_at {P : Program} {Q : Exit → Act → World → Prop} {a : Act} {w : World} {ops : Array Oper} {md : Region.Mode} {S : World → Prop} {i k : Nat} {oi : Oper} {v : Value} {fuel : Nat} {listed : Array Bool} (hi : ops[i]? = some oi) (hd : oi.dst = some k)
    (hs : Region.noSelect ops = true) (hf : Region.free md ops listed i = true) (hr : (Region.ready md ops listed).contains i = true)
    (hQ : ∀ c a w, Q (.panic c) (a.put oi.dst v) w → Q (.panic c) a w) (hy : YieldsIf P ops S oi v a) (hS : S w)
    (h : wpAnyH P md ops Q S fuel (listed.setIfInBounds i true) (a.put (some k) v) w) : wpAnyH P md ops Q S (fuel + 1) listed a w :=
  wpAnyH_take hi hs hf hr hQ hy hS (by rw [hd]; exact h)
theorem drew_below (w : World) : Below w.heap.size w w.drew := ⟨rfl, rfl, rfl, Nat.le_refl _, fun _ _ => rfl⟩
theorem suffix_drop {l y r : List UInt8} {a N : Nat} (h : l.drop a = y ++ r) (hN : l.length = N) (ha : a ≤ N) : r = l.drop (N - r.length) ∧ r.length ≤ N - a := by
  have h1 := congrArg List.length h
  rw [List.length_drop, List.length_append] at h1
  have h2 : (l.drop a).drop y.length = r := by rw [h]; simp
  rw [List.drop_drop] at h2
  refine ⟨?_, by omega⟩
  rw [show N - r.length = a + y.length by omega]
  exact h2.symm
theorem zero_cells {w2 : World} {B : Nat} (hr2 : w2.heap[B]? = some (.cells #[.int .i64 0, .int .i64 0, .string ByteArray.empty, .slice none 0 0] 24 (0, 0))) :
    w2.cell? ⟨B, 0, none⟩ = some (.int .i64 0) ∧ w2.cell? ⟨B, 1, none⟩ = some (.int .i64 0) ∧ w2.cell? ⟨B, 2, none⟩ = some (.string ByteArray.empty) ∧ w2.cell? ⟨B, 3, none⟩ = some (.slice none 0 0) ∧ ∀ o, w2.frozen? ⟨B, o, none⟩ = false :=
  ⟨by simp [World.cell?, hr2], by simp [World.cell?, hr2], by simp only [World.cell?, hr2]; rfl, by simp [World.cell?, hr2], fun o => by simp [World.frozen?, hr2]⟩
set_option maxRecDepth 100000 in
set_option maxHeartbeats 1000000 in
theorem rval_else (g : Nat) (p : Option Addr) (N c a a' d : Nat) (bad : Bool) (x : UInt8) (L : List UInt8) (w : World) (D : Int) (hlt : g < w.heap.size) (h1 : x.toNat ≠ 1) (h2 : x.toNat ≠ 2) (h3 : x.toNat ≠ 3) (hd : decv d L = none)
    (hn : ∀ o : Obj, Calls Try.prog 53 #[.pointer (some ⟨g, 0, none⟩)] (w.alloc o) (RNxt g p N c a' bad x (w.alloc o))) :
    Calls Try.prog 37 #[.pointer (some ⟨g, 0, none⟩), .int .i64 D] w (RVal g p N c d L w) := by
  have H1 := Lib.hid hn
  have HD := Lib.hid hd
  have e1 : ¬ (x.toNat : Int) = 1 := by omega
  have e2 : ¬ (x.toNat : Int) = 2 := by omega
  have e3 : ¬ (x.toNat : Int) = 3 := by omega
  clear hn hd
  go_enter Try.func37, Try.ntmps37
  go_wp2_with fail
  refine (H1.out _).mono ?_
  rintro e w1 ⟨rfl, hs1, hc1⟩
  have hr := hc1.block w.heap.size (by simp) (by omega)
  rw [heap_alloc_new] at hr
  obtain ⟨z0, z1, z2, z3, f0⟩ := zero_cells hr
  obtain ⟨g0, g1, g2, gf⟩ := hs1.cells
  have f2 := gf 2
  have hgn : w.heap.size ≠ g := by omega
  have hng : g ≠ w.heap.size := by omega
  have HR1 := Lib.hid hr
  have HC1 := Lib.hid hc1.alloc
  have HS1 := Lib.hid hs1
  clear hr hc1 hs1 g0 g1 gf
  go_wp2_with fail
  have hr3 : (w1.setCell ⟨g, 2, none⟩ (.bool true)).heap[w.heap.size]? = _ := ((chg_set' g 2 w1 (.bool true)).block w.heap.size (Array.getElem?_eq_some_iff.1 HR1.out).1 hgn).trans HR1.out
  exact bodyPost_ret (results_cell_row rfl _ _ w.heap.size 24 _ (0, 0) _ rfl (set_four hr3) Try.underlying24 rfl (by kernel_rfl)) rfl (RVal.none HD.out rfl ((HS1.out.set2 true).four hgn _ _ _ _) ((HC1.out.trans (chg_set' g 2 w1 _)).four (Nat.le_refl _) _ _ _ _))
set_option maxRecDepth 100000 in
set_option maxHeartbeats 1000000 in
theorem rval_text (g b : Nat) (p : Option Addr) (N c a d : Nat) (x : UInt8) (l : List UInt8) (w : World) (D : Int) (hs : RS w g p N c a false) (hb : Bts w g b p l) (hl : l.length = N) (hN : N ≤ 1099511627776) (hc : N ≤ c) (hc2 : c ≤ 9223372036854775807) (hx : l[a]? = some x) (h1 : x.toNat = 2) :
    Calls Try.prog 37 #[.pointer (some ⟨g, 0, none⟩), .int .i64 D] w (RVal g p N c d (l.drop a) w) := by
  have hlt := hs.lt
  have ha : a < N := by have := (List.getElem?_eq_some_iff.1 hx).1; omega
  obtain ⟨o, rfl, hbg, hbl, hcc⟩ : ∃ o, p = some ⟨b, o, none⟩ ∧ b ≠ g ∧ b < w.heap.size ∧ ∀ (j : Nat) (c : UInt8), l[j]? = some c → w.cell? ⟨b, o + j, none⟩ = some (byt c) := by
    rcases hb with rfl | h
    · simp at hx
    · exact h
  have hd : decv d (l.drop a) = match dnum (l.drop (a + 1)) with | none => none | some (u, r) => if u ≤ r.length then some ⟨2, 0, ⟨(r.take u).toArray⟩, .nil, r.drop u⟩ else none := by
    rw [drop_next hx]
    cases d <;> (unfold decv; rw [if_neg (by omega), if_pos h1]; cases dnum (l.drop (a + 1)) <;> rfl)
  have H1 := Lib.hid (fun (o' : Obj) => rnext_yes g b _ N c a false x l (w.alloc o') (hs.below (one_new w o')) (hb.chg (Chg.refl g (w.alloc o')).alloc) hl hx hN)
  have H2 := Lib.hid (fun (W : World) (h : RS W g (some ⟨b, o, none⟩) N c (a + 1) false) (hc : Chg g w W) => rnumber_any g b _ N c (a + 1) l W h (hb.chg hc) hl hN (by omega))
  have HD := Lib.hid hd
  have HCC := Lib.hid hcc
  have HL := Lib.hid hl
  have hx1 : (x.toNat : Int) = 2 := by omega
  clear hs hb hd hx hcc hl
  go_enter Try.func37, Try.ntmps37
  go_wp2_with fail
  refine (H1.out _).mono ?_
  rintro e w1 ⟨rfl, hs1, hc1⟩
  have hr := hc1.block w.heap.size (by simp) (by omega)
  rw [heap_alloc_new] at hr
  have HR1 := Lib.hid hr
  have HC1 := Lib.hid hc1.alloc
  have HS1 := Lib.hid hs1
  clear hr hc1 hs1
  go_wp2_with fail
  refine (H2.out _ HS1.out HC1.out).mono ?_
  rintro e w2 hn
  have hz1 := HC1.out.size
  have hzz : w.heap.size < w1.heap.size := (Array.getElem?_eq_some_iff.1 HR1.out).1
  unfold RNum at hn
  have hgn : w.heap.size ≠ g := by omega
  cases hdn : dnum (l.drop (a + 1)) with
  | none =>
    rw [hdn] at hn
    obtain ⟨rfl, ⟨a2, hs2⟩, hc2⟩ := hn
    have hr2 := (hc2.block w.heap.size hzz hgn).trans HR1.out
    have hD : decv d (l.drop a) = none := by rw [HD.out, hdn]
    have HDD := Lib.hid hD
    have HS2 := Lib.hid hs2
    have HC2 := Lib.hid (HC1.out.trans hc2)
    have HR2 := Lib.hid hr2
    obtain ⟨g0, g1, g2, gf⟩ := hs2.cells
    have G2 := Later.cell (w := w2) hs2.lt g2
    clear hD hdn hs2 hc2 hr2 HD H2 g0 g1
    go_upto_region 9 with fail
    refine wp_region_later (by kernel_rfl) (by kernel_rfl) ?_
    repeat (go_big_quiet_step (fail))
    refine wpQuiet_nil ?_
    intro _ hw'
    obtain ⟨y, hy⟩ := hw'
    subst hy
    have HS3 := Lib.hid (HS2.out.below y.b)
    have hr3 := (y.b.block w.heap.size (Array.getElem?_eq_some_iff.1 HR2.out).1).trans HR2.out
    have HC3 := Lib.hid (HC2.out.trans ⟨y.b.os, y.b.tape, y.b.output, y.b.size, fun k hk _ => y.b.block k hk⟩)
    obtain ⟨z0, z1, z2, z3, f0⟩ := zero_cells hr3
    have HR3 := Lib.hid hr3
    obtain ⟨g0, g1, g2', gf'⟩ := HS3.out.cells
    have f2 := gf' 2
    clear hr3 g0 g1 gf gf' G2 g2
    go_wp2_with fail
    exact bodyPost_ret (results_cell_row rfl _ _ w.heap.size 24 _ (0, 0) _ rfl (set_four (((chg_set' g 2 y.v (.bool true)).block w.heap.size (Array.getElem?_eq_some_iff.1 HR3.out).1 hgn).trans HR3.out)) Try.underlying24 rfl (by kernel_rfl)) rfl (RVal.none HDD.out rfl ((HS3.out.set2 true).four hgn _ _ _ _) ((HC3.out.trans (chg_set' g 2 y.v _)).four (Nat.le_refl _) _ _ _ _))
  | some ur =>
    obtain ⟨u, r⟩ := ur
    rw [hdn] at hn
    obtain ⟨rfl, hs2, hc2⟩ := hn
    have hu := (dnum_only hdn).2
    obtain ⟨hrd, hrl⟩ := suffix_drop (dnum_only hdn).1 HL.out (by omega)
    have hr2 := (hc2.block w.heap.size hzz hgn).trans HR1.out
    have hD : decv d (l.drop a) = if u ≤ r.length then some ⟨2, 0, ⟨(r.take u).toArray⟩, .nil, r.drop u⟩ else none := by rw [HD.out, hdn]
    have HRD := Lib.hid hrd
    obtain ⟨m, hm⟩ : ∃ m, r.length = m := ⟨_, rfl⟩
    rw [hm] at hs2 hrl hD
    obtain ⟨a2, ha2⟩ : ∃ a2, N - m = a2 := ⟨_, rfl⟩
    rw [ha2] at hs2
    have hma : a2 + m = N := by omega
    have HDD := Lib.hid hD
    have HS2 := Lib.hid hs2
    have HC2 := Lib.hid (HC1.out.trans hc2)
    have HR2 := Lib.hid hr2
    obtain ⟨g0, g1, g2, gf⟩ := hs2.cells
    have G0 := Later.cell (w := w2) hs2.lt g0
    have G1 := Later.cell (w := w2) hs2.lt g1
    have G2 := Later.cell (w := w2) hs2.lt g2
    have hsub : ((N : Int) - (a2 : Int)) = (m : Int) := by omega
    have hw1 : IntKind.i64.wrap ((N : Int) - (a2 : Int)) = (m : Int) := by rw [hsub]; exact IntWalk.i64_in _ (by omega)
    clear hD hdn hs2 hc2 hr2 HD H2 H1 g0 g1 g2 gf hrd
    by_cases hum : u ≤ m
    · have k1 : ¬ (m : Int) < (u : Int) := by omega
      have k1' : ¬ m < u := by omega
      rw [if_pos hum] at HDD
      go_upto_region 9 with fail
      refine wp_region_later (by kernel_rfl) (by kernel_rfl) ?_
      repeat (go_big_quiet_step (fail))
      refine wpQuiet_nil ?_
      intro _ hw'
      obtain ⟨y, hy⟩ := hw'
      subst hy
      have HS3 := Lib.hid (HS2.out.below y.b)
      have hr3 := (y.b.block w.heap.size (Array.getElem?_eq_some_iff.1 HR2.out).1).trans HR2.out
      have HC3 := Lib.hid (HC2.out.trans ⟨y.b.os, y.b.tape, y.b.output, y.b.size, fun k hk _ => y.b.block k hk⟩)
      have HR3 := Lib.hid hr3
      obtain ⟨g0, g1, g2', gf'⟩ := HS3.out.cells
      have f1 := gf' 1
      clear hr3 gf' G0 G1 G2
      have hwu : IntKind.i64.wrap (u : Int) = (u : Int) := IntWalk.i64_in _ (by omega)
      have hwa : IntKind.i64.wrap ((a2 : Int) + (u : Int)) = (a2 : Int) + (u : Int) := IntWalk.i64_in _ (by omega)
      go_upto_region 13 with fail
      have hs4 : RS (y.v.setCell ⟨g, 1, none⟩ (.int .i64 ((a2 : Int) + (u : Int)))) g (some ⟨b, o, none⟩) N c (a2 + u) false := by
        have := HS3.out.set1 (a2 + u)
        rwa [Int.natCast_add] at this
      have hc4 := HC3.out.trans (chg_set' g 1 y.v (.int .i64 ((a2 : Int) + (u : Int))))
      have hr4 := ((chg_set' g 1 y.v (.int .i64 ((a2 : Int) + (u : Int)))).block w.heap.size (Array.getElem?_eq_some_iff.1 HR3.out).1 hgn).trans HR3.out
      have HS4 := Lib.hid hs4
      have HC4 := Lib.hid hc4
      have HR4 := Lib.hid hr4
      clear hs4 hc4 hr4 g0 g1 g2' f1 HS3 HC3 HR3
      generalize y.v.setCell ⟨g, 1, none⟩ (.int .i64 ((a2 : Int) + (u : Int))) = W4 at *
      obtain ⟨z0, z1, z2, z3, f0⟩ := zero_cells HR4.out
      obtain ⟨g0, g1, _, _⟩ := HS4.out.cells
      rw [Int.natCast_add] at g1
      have hba : BArg W4.drew b (some ⟨b, o + a2, none⟩) (r.take u) := .inr ⟨o + a2, rfl, Nat.lt_of_lt_of_le hbl HC4.out.size, fun j x hj => by
        have hju : j < u := by have := (List.getElem?_eq_some_iff.1 hj).1; rw [List.length_take] at this; omega
        rw [List.getElem?_take_of_lt hju, HRD.out, List.getElem?_drop, hm, ha2] at hj
        have h5 := HCC.out (a2 + j) x hj
        show W4.cell? ⟨b, o + a2 + j, none⟩ = _
        rw [World.cell?_of_block (w := w) (a := ⟨b, o + a2 + j, none⟩) (HC4.out.block b hbl hbg), Nat.add_assoc]
        exact h5⟩
      have hlu : (r.take u).length = u := by rw [List.length_take, hm]; omega
      have hcv0 : u = 0 → ∀ cap, (convert 27 9 (.slice (some ⟨b, o, none⟩) u cap)).run Try.prog W4.drew = .ok (.string ⟨(r.take u).toArray⟩) W4.drew := fun h0 cap => barg_string (b := b) (.inl (by rw [h0]; rfl)) hlu
      have hcv' := fun cap => barg_string (cap := cap) hba hlu
      have hng : g ≠ w.heap.size := fun e => hgn e.symm
      have k5 : a2 ≤ c := by omega
      have k6 : a2 + u ≤ c := by omega
      have k7 : a2 + u - a2 = u := by omega
      have i1 : (0 : Int) ≤ (a2 : Int) := by omega
      have i2 : (a2 : Int) ≤ (a2 : Int) + (u : Int) := by omega
      have i3 : (a2 : Int) + (u : Int) ≤ (c : Int) := by omega
      have i4 : (0 : Int) ≤ (a2 : Int) + (u : Int) := by omega
      have i5 : ((a2 : Int) + (u : Int)).toNat = a2 + u := by omega
      have i6 : ((a2 : Int) + (u : Int) - (a2 : Int)) = (u : Int) := by omega
      have k8 : ((a2 : Int) + (u : Int) - (u : Int)) = (a2 : Int) := by omega
      have hwb : IntKind.i64.wrap (a2 : Int) = (a2 : Int) := IntWalk.i64_in _ (by omega)
      generalize hS : (⟨(r.take u).toArray⟩ : ByteArray) = S at *
      have HS9 := Lib.hid hS
      clear hS hba
      have HOK : Hid (Okv 2 0 S) := Lib.hid ⟨by unfold W64; omega, by unfold W64; omega, by
        rw [← HS9.out]
        show (r.take u).toArray.size ≤ maxLen
        unfold maxLen
        rw [List.size_toArray]
        omega⟩
      by_cases hca : c = a2
      · have hu0 : u = 0 := by omega
        have hcv := hcv0 hu0 (c - a2)
        have hw0 : IntKind.i64.wrap 0 = 0 := rfl
        have hSe : ByteArray.empty = S := by rw [← HS9.out, hu0]; rfl
        refine wp_region_held_drew (S := fun w' => w'.cell? ⟨g, 0, none⟩ = some (.slice (some ⟨b, o, none⟩) N c) ∧ w'.cell? ⟨g, 1, none⟩ = some (.int .i64 ((a2 : Int) + (u : Int)))) (by kernel_rfl) ⟨g0, g1⟩ (fun hHeld => ?_)
        refine take_at (i := 0) (k := 66) (v := .pointer (some ⟨g, 0, none⟩)) rfl rfl (by kernel_rfl) (by kernel_rfl) (by kernel_rfl) (fun _ _ _ h => h) (Or.inl ⟨by rfl, fun w _ => by go_simp⟩) hHeld ?_
        try simp only [Act.put, List.setIfInBounds_toArray, List.set_cons_zero, List.set_cons_succ]
        refine take_at (i := 1) (k := 67) (v := .pointer (some ⟨g, 0, none⟩)) rfl rfl (by kernel_rfl) (by kernel_rfl) (by kernel_rfl) (fun _ _ _ h => h) (Or.inl ⟨by rfl, fun w _ => by go_simp⟩) hHeld ?_
        try simp only [Act.put, List.setIfInBounds_toArray, List.set_cons_zero, List.set_cons_succ]
        refine take_at (i := 2) (k := 68) (v := .pointer (some ⟨g, 0, none⟩)) rfl rfl (by kernel_rfl) (by kernel_rfl) (by kernel_rfl) (fun _ _ _ h => h) (Or.inl ⟨by rfl, fun w _ => by go_simp⟩) hHeld ?_
        try simp only [Act.put, List.setIfInBounds_toArray, List.set_cons_zero, List.set_cons_succ]
        refine take_at (i := 3) (k := 69) (v := .slice (some ⟨b, o, none⟩) N c) rfl rfl (by kernel_rfl) (by kernel_rfl) (by kernel_rfl) (fun _ _ _ h => h) (Or.inl ⟨by rfl, fun w' h => by have h0 := h.1; go_simp⟩) hHeld ?_
        try simp only [Act.put, List.setIfInBounds_toArray, List.set_cons_zero, List.set_cons_succ]
        refine take_at (i := 4) (k := 70) (v := .pointer (some ⟨g, 0, none⟩)) rfl rfl (by kernel_rfl) (by kernel_rfl) (by kernel_rfl) (fun _ _ _ h => h) (Or.inl ⟨by rfl, fun w _ => by go_simp⟩) hHeld ?_
        try simp only [Act.put, List.setIfInBounds_toArray, List.set_cons_zero, List.set_cons_succ]
        refine take_at (i := 5) (k := 71) (v := .pointer (some ⟨g, 0, none⟩)) rfl rfl (by kernel_rfl) (by kernel_rfl) (by kernel_rfl) (fun _ _ _ h => h) (Or.inl ⟨by rfl, fun w _ => by go_simp⟩) hHeld ?_
        try simp only [Act.put, List.setIfInBounds_toArray, List.set_cons_zero, List.set_cons_succ]
        refine take_at (i := 6) (k := 72) (v := .pointer (some ⟨g, 1, none⟩)) rfl rfl (by kernel_rfl) (by kernel_rfl) (by kernel_rfl) (fun _ _ _ h => h) (Or.inl ⟨by rfl, fun w _ => by go_simp⟩) hHeld ?_
        try simp only [Act.put, List.setIfInBounds_toArray, List.set_cons_zero, List.set_cons_succ]
        refine take_at (i := 7) (k := 73) (v := .int .i64 ((a2 : Int) + (u : Int))) rfl rfl (by kernel_rfl) (by kernel_rfl) (by kernel_rfl) (fun _ _ _ h => h) (Or.inl ⟨by rfl, fun w' h => by have h0 := h.2; go_simp⟩) hHeld ?_
        try simp only [Act.put, List.setIfInBounds_toArray, List.set_cons_zero, List.set_cons_succ]
        refine take_at (i := 8) (k := 74) (v := .int .u64 (u : Int)) rfl rfl (by kernel_rfl) (by kernel_rfl) (by kernel_rfl) (fun _ _ _ h => h) (Or.inl ⟨by rfl, fun w _ => by go_simp⟩) hHeld ?_
        try simp only [Act.put, List.setIfInBounds_toArray, List.set_cons_zero, List.set_cons_succ]
        refine take_at (i := 9) (k := 75) (v := .int .i64 (u : Int)) rfl rfl (by kernel_rfl) (by kernel_rfl) (by kernel_rfl) (fun _ _ _ h => h) (Or.inl ⟨by rfl, fun w _ => by go_simp⟩) hHeld ?_
        try simp only [Act.put, List.setIfInBounds_toArray, List.set_cons_zero, List.set_cons_succ]
        refine take_at (i := 10) (k := 76) (v := .int .i64 (a2 : Int)) rfl rfl (by kernel_rfl) (by kernel_rfl) (by kernel_rfl) (fun _ _ _ h => h) (Or.inl ⟨by rfl, fun w _ => by go_simp⟩) hHeld ?_
        try simp only [Act.put, List.setIfInBounds_toArray, List.set_cons_zero, List.set_cons_succ]
        refine take_at (i := 11) (k := 77) (v := .pointer (some ⟨g, 0, none⟩)) rfl rfl (by kernel_rfl) (by kernel_rfl) (by kernel_rfl) (fun _ _ _ h => h) (Or.inl ⟨by rfl, fun w _ => by go_simp⟩) hHeld ?_
        try simp only [Act.put, List.setIfInBounds_toArray, List.set_cons_zero, List.set_cons_succ]
        refine take_at (i := 12) (k := 78) (v := .pointer (some ⟨g, 0, none⟩)) rfl rfl (by kernel_rfl) (by kernel_rfl) (by kernel_rfl) (fun _ _ _ h => h) (Or.inl ⟨by rfl, fun w _ => by go_simp⟩) hHeld ?_
        try simp only [Act.put, List.setIfInBounds_toArray, List.set_cons_zero, List.set_cons_succ]
        refine take_at (i := 13) (k := 79) (v := .pointer (some ⟨g, 1, none⟩)) rfl rfl (by kernel_rfl) (by kernel_rfl) (by kernel_rfl) (fun _ _ _ h => h) (Or.inl ⟨by rfl, fun w _ => by go_simp⟩) hHeld ?_
        try simp only [Act.put, List.setIfInBounds_toArray, List.set_cons_zero, List.set_cons_succ]
        refine take_at (i := 14) (k := 80) (v := .int .i64 ((a2 : Int) + (u : Int))) rfl rfl (by kernel_rfl) (by kernel_rfl) (by kernel_rfl) (fun _ _ _ h => h) (Or.inl ⟨by rfl, fun w' h => by have h0 := h.2; go_simp⟩) hHeld ?_
        try simp only [Act.put, List.setIfInBounds_toArray, List.set_cons_zero, List.set_cons_succ]
        refine take_at (i := 15) (k := 81) (v := .slice (some ⟨b, o, none⟩) u (c - a2)) rfl rfl (by kernel_rfl) (by kernel_rfl) (by kernel_rfl) (fun _ _ _ h => h) (Or.inl ⟨by rfl, fun w _ => by go_simp⟩) hHeld ?_
        try simp only [Act.put, List.setIfInBounds_toArray, List.set_cons_zero, List.set_cons_succ]
        clear hHeld
        refine wpAnyH_ready (rs := [16]) (by kernel_rfl) (by simp) ?_
        refine AllReadyH.cons rfl (fun K hK => ?_) AllReadyH.nil
        rw [if_pos (by rfl)]
        go_simp
        refine hK.out _ _ ⟨g0, g1⟩ (fun hHeld => ?_)
        try simp only [Act.put, List.setIfInBounds_toArray, List.set_cons_zero, List.set_cons_succ]
        refine take_at (i := 17) (k := 83) (v := val 2 0 S (.slice none 0 0)) rfl rfl (by kernel_rfl) (by kernel_rfl) (by kernel_rfl) (fun _ _ _ h => h) (Or.inl ⟨by rfl, fun w _ => by go_simp⟩) hHeld ?_
        try simp only [Act.put, List.setIfInBounds_toArray, List.set_cons_zero, List.set_cons_succ]
        clear hHeld
        refine wpAnyH_ready (rs := [18]) (by kernel_rfl) (by simp) ?_
        refine AllReadyH.cons rfl (fun K hK => ?_) AllReadyH.nil
        rw [if_pos (by rfl)]
        go_simp
        have hs5 := (HS4.out.below (drew_below W4)).four hgn (.int .i64 2) (.int .i64 0) (.string S) (.slice none 0 0)
        obtain ⟨q0, q1, _, _⟩ := hs5.cells
        rw [Int.natCast_add] at q1
        refine hK.out _ _ ⟨q0, q1⟩ (fun hHeld => ?_)
        try simp only [Act.put, List.setIfInBounds_toArray, List.set_cons_zero, List.set_cons_succ]
        refine wpAnyH_done (by kernel_rfl) ?_ _
        go_wp2_with fail
        exact bodyPost_ret (results_cell_row rfl _ _ w.heap.size 24 _ (0, 0) _ rfl (set_four HR4.out) Try.underlying24 rfl (by kernel_rfl)) rfl (RVal.some HDD.out (by rw [← HS9.out]) HOK.out (slc_nil _) hs5 (by show a2 + u = N - (r.drop u).length; rw [List.length_drop, hm]; omega) ((HC4.out.trans (chg_drew g W4)).four (Nat.le_refl _) _ _ _ _))
      · have hcv := hcv' (c - a2)
        refine wp_region_held_drew (S := fun w' => w'.cell? ⟨g, 0, none⟩ = some (.slice (some ⟨b, o, none⟩) N c) ∧ w'.cell? ⟨g, 1, none⟩ = some (.int .i64 ((a2 : Int) + (u : Int)))) (by kernel_rfl) ⟨g0, g1⟩ (fun hHeld => ?_)
        refine take_at (i := 0) (k := 66) (v := .pointer (some ⟨g, 0, none⟩)) rfl rfl (by kernel_rfl) (by kernel_rfl) (by kernel_rfl) (fun _ _ _ h => h) (Or.inl ⟨by rfl, fun w _ => by go_simp⟩) hHeld ?_
        try simp only [Act.put, List.setIfInBounds_toArray, List.set_cons_zero, List.set_cons_succ]
        refine take_at (i := 1) (k := 67) (v := .pointer (some ⟨g, 0, none⟩)) rfl rfl (by kernel_rfl) (by kernel_rfl) (by kernel_rfl) (fun _ _ _ h => h) (Or.inl ⟨by rfl, fun w _ => by go_simp⟩) hHeld ?_
        try simp only [Act.put, List.setIfInBounds_toArray, List.set_cons_zero, List.set_cons_succ]
        refine take_at (i := 2) (k := 68) (v := .pointer (some ⟨g, 0, none⟩)) rfl rfl (by kernel_rfl) (by kernel_rfl) (by kernel_rfl) (fun _ _ _ h => h) (Or.inl ⟨by rfl, fun w _ => by go_simp⟩) hHeld ?_
        try simp only [Act.put, List.setIfInBounds_toArray, List.set_cons_zero, List.set_cons_succ]
        refine take_at (i := 3) (k := 69) (v := .slice (some ⟨b, o, none⟩) N c) rfl rfl (by kernel_rfl) (by kernel_rfl) (by kernel_rfl) (fun _ _ _ h => h) (Or.inl ⟨by rfl, fun w' h => by have h0 := h.1; go_simp⟩) hHeld ?_
        try simp only [Act.put, List.setIfInBounds_toArray, List.set_cons_zero, List.set_cons_succ]
        refine take_at (i := 4) (k := 70) (v := .pointer (some ⟨g, 0, none⟩)) rfl rfl (by kernel_rfl) (by kernel_rfl) (by kernel_rfl) (fun _ _ _ h => h) (Or.inl ⟨by rfl, fun w _ => by go_simp⟩) hHeld ?_
        try simp only [Act.put, List.setIfInBounds_toArray, List.set_cons_zero, List.set_cons_succ]
        refine take_at (i := 5) (k := 71) (v := .pointer (some ⟨g, 0, none⟩)) rfl rfl (by kernel_rfl) (by kernel_rfl) (by kernel_rfl) (fun _ _ _ h => h) (Or.inl ⟨by rfl, fun w _ => by go_simp⟩) hHeld ?_
        try simp only [Act.put, List.setIfInBounds_toArray, List.set_cons_zero, List.set_cons_succ]
        refine take_at (i := 6) (k := 72) (v := .pointer (some ⟨g, 1, none⟩)) rfl rfl (by kernel_rfl) (by kernel_rfl) (by kernel_rfl) (fun _ _ _ h => h) (Or.inl ⟨by rfl, fun w _ => by go_simp⟩) hHeld ?_
        try simp only [Act.put, List.setIfInBounds_toArray, List.set_cons_zero, List.set_cons_succ]
        refine take_at (i := 7) (k := 73) (v := .int .i64 ((a2 : Int) + (u : Int))) rfl rfl (by kernel_rfl) (by kernel_rfl) (by kernel_rfl) (fun _ _ _ h => h) (Or.inl ⟨by rfl, fun w' h => by have h0 := h.2; go_simp⟩) hHeld ?_
        try simp only [Act.put, List.setIfInBounds_toArray, List.set_cons_zero, List.set_cons_succ]
        refine take_at (i := 8) (k := 74) (v := .int .u64 (u : Int)) rfl rfl (by kernel_rfl) (by kernel_rfl) (by kernel_rfl) (fun _ _ _ h => h) (Or.inl ⟨by rfl, fun w _ => by go_simp⟩) hHeld ?_
        try simp only [Act.put, List.setIfInBounds_toArray, List.set_cons_zero, List.set_cons_succ]
        refine take_at (i := 9) (k := 75) (v := .int .i64 (u : Int)) rfl rfl (by kernel_rfl) (by kernel_rfl) (by kernel_rfl) (fun _ _ _ h => h) (Or.inl ⟨by rfl, fun w _ => by go_simp⟩) hHeld ?_
        try simp only [Act.put, List.setIfInBounds_toArray, List.set_cons_zero, List.set_cons_succ]
        refine take_at (i := 10) (k := 76) (v := .int .i64 (a2 : Int)) rfl rfl (by kernel_rfl) (by kernel_rfl) (by kernel_rfl) (fun _ _ _ h => h) (Or.inl ⟨by rfl, fun w _ => by go_simp⟩) hHeld ?_
        try simp only [Act.put, List.setIfInBounds_toArray, List.set_cons_zero, List.set_cons_succ]
        refine take_at (i := 11) (k := 77) (v := .pointer (some ⟨g, 0, none⟩)) rfl rfl (by kernel_rfl) (by kernel_rfl) (by kernel_rfl) (fun _ _ _ h => h) (Or.inl ⟨by rfl, fun w _ => by go_simp⟩) hHeld ?_
        try simp only [Act.put, List.setIfInBounds_toArray, List.set_cons_zero, List.set_cons_succ]
        refine take_at (i := 12) (k := 78) (v := .pointer (some ⟨g, 0, none⟩)) rfl rfl (by kernel_rfl) (by kernel_rfl) (by kernel_rfl) (fun _ _ _ h => h) (Or.inl ⟨by rfl, fun w _ => by go_simp⟩) hHeld ?_
        try simp only [Act.put, List.setIfInBounds_toArray, List.set_cons_zero, List.set_cons_succ]
        refine take_at (i := 13) (k := 79) (v := .pointer (some ⟨g, 1, none⟩)) rfl rfl (by kernel_rfl) (by kernel_rfl) (by kernel_rfl) (fun _ _ _ h => h) (Or.inl ⟨by rfl, fun w _ => by go_simp⟩) hHeld ?_
        try simp only [Act.put, List.setIfInBounds_toArray, List.set_cons_zero, List.set_cons_succ]
        refine take_at (i := 14) (k := 80) (v := .int .i64 ((a2 : Int) + (u : Int))) rfl rfl (by kernel_rfl) (by kernel_rfl) (by kernel_rfl) (fun _ _ _ h => h) (Or.inl ⟨by rfl, fun w' h => by have h0 := h.2; go_simp⟩) hHeld ?_
        try simp only [Act.put, List.setIfInBounds_toArray, List.set_cons_zero, List.set_cons_succ]
        refine take_at (i := 15) (k := 81) (v := .slice (some ⟨b, o + a2, none⟩) u (c - a2)) rfl rfl (by kernel_rfl) (by kernel_rfl) (by kernel_rfl) (fun _ _ _ h => h) (Or.inl ⟨by rfl, fun w _ => by go_simp⟩) hHeld ?_
        try simp only [Act.put, List.setIfInBounds_toArray, List.set_cons_zero, List.set_cons_succ]
        clear hHeld
        refine wpAnyH_ready (rs := [16]) (by kernel_rfl) (by simp) ?_
        refine AllReadyH.cons rfl (fun K hK => ?_) AllReadyH.nil
        rw [if_pos (by rfl)]
        go_simp
        refine hK.out _ _ ⟨g0, g1⟩ (fun hHeld => ?_)
        try simp only [Act.put, List.setIfInBounds_toArray, List.set_cons_zero, List.set_cons_succ]
        refine take_at (i := 17) (k := 83) (v := val 2 0 S (.slice none 0 0)) rfl rfl (by kernel_rfl) (by kernel_rfl) (by kernel_rfl) (fun _ _ _ h => h) (Or.inl ⟨by rfl, fun w _ => by go_simp⟩) hHeld ?_
        try simp only [Act.put, List.setIfInBounds_toArray, List.set_cons_zero, List.set_cons_succ]
        clear hHeld
        refine wpAnyH_ready (rs := [18]) (by kernel_rfl) (by simp) ?_
        refine AllReadyH.cons rfl (fun K hK => ?_) AllReadyH.nil
        rw [if_pos (by rfl)]
        go_simp
        have hs5 := (HS4.out.below (drew_below W4)).four hgn (.int .i64 2) (.int .i64 0) (.string S) (.slice none 0 0)
        obtain ⟨q0, q1, _, _⟩ := hs5.cells
        rw [Int.natCast_add] at q1
        refine hK.out _ _ ⟨q0, q1⟩ (fun hHeld => ?_)
        try simp only [Act.put, List.setIfInBounds_toArray, List.set_cons_zero, List.set_cons_succ]
        refine wpAnyH_done (by kernel_rfl) ?_ _
        go_wp2_with fail
        exact bodyPost_ret (results_cell_row rfl _ _ w.heap.size 24 _ (0, 0) _ rfl (set_four HR4.out) Try.underlying24 rfl (by kernel_rfl)) rfl (RVal.some HDD.out (by rw [← HS9.out]) HOK.out (slc_nil _) hs5 (by show a2 + u = N - (r.drop u).length; rw [List.length_drop, hm]; omega) ((HC4.out.trans (chg_drew g W4)).four (Nat.le_refl _) _ _ _ _))
    · have k1 : (m : Int) < (u : Int) := by omega
      have k1' : m < u := by omega
      rw [if_neg hum] at HDD
      go_upto_region 9 with fail
      refine wp_region_later (by kernel_rfl) (by kernel_rfl) ?_
      repeat (go_big_quiet_step (fail))
      refine wpQuiet_nil ?_
      intro _ hw'
      obtain ⟨y, hy⟩ := hw'
      subst hy
      have HS3 := Lib.hid (HS2.out.below y.b)
      have hr3 := (y.b.block w.heap.size (Array.getElem?_eq_some_iff.1 HR2.out).1).trans HR2.out
      have HC3 := Lib.hid (HC2.out.trans ⟨y.b.os, y.b.tape, y.b.output, y.b.size, fun k hk _ => y.b.block k hk⟩)
      obtain ⟨z0, z1, z2, z3, f0⟩ := zero_cells hr3
      have HR3 := Lib.hid hr3
      obtain ⟨g0, g1, g2', gf'⟩ := HS3.out.cells
      have f2 := gf' 2
      clear hr3 g0 g1 gf' G0 G1 G2
      go_wp2_with fail
      exact bodyPost_ret (results_cell_row rfl _ _ w.heap.size 24 _ (0, 0) _ rfl (set_four (((chg_set' g 2 y.v (.bool true)).block w.heap.size (Array.getElem?_eq_some_iff.1 HR3.out).1 hgn).trans HR3.out)) Try.underlying24 rfl (by kernel_rfl)) rfl (RVal.none HDD.out rfl ((HS3.out.set2 true).four hgn _ _ _ _) ((HC3.out.trans (chg_set' g 2 y.v _)).four (Nat.le_refl _) _ _ _ _))
end Go.Proofs.Ytaahmfmelmjahaa
namespace Go.Proofs.Ytaahmfmelmjahaa
open Go Go.RowKit
/-- two blocks alone have changed -/
structure Chg2 (g B : Nat) (w w' : World) : Prop where
  os : w'.os = w.os
  tape : w'.tape = w.tape
  output : w'.output = w.output
  size : w.heap.size ≤ w'.heap.size
  block : ∀ k, k < w.heap.size → k ≠ g → k ≠ B → w'.heap[k]? = w.heap[k]?
theorem Chg2.refl (g B : Nat) (w : World) : Chg2 g B w w := ⟨rfl, rfl, rfl, Nat.le_refl _, fun _ _ _ _ => rfl⟩
theorem Chg2.chg {g B : Nat} {w w1 w2 : World} (h : Chg2 g B w w1) (hc : Chg g w1 w2) : Chg2 g B w w2 :=
  ⟨hc.os.trans h.os, hc.tape.trans h.tape, hc.output.trans h.output, Nat.le_trans h.size hc.size, fun k hk h1 h2 => (hc.block k (Nat.lt_of_lt_of_le hk h.size) h1).trans (h.block k hk h1 h2)⟩
theorem Chg2.setB {g B o : Nat} {w w1 : World} (h : Chg2 g B w w1) (v : Value) : Chg2 g B w (w1.setCell ⟨B, o, none⟩ v) :=
  ⟨h.os, h.tape, h.output, by simpa [World.setCell] using h.size, fun k hk h1 h2 => (Below.heap_setCell _ _ _ _ h2).trans (h.block k hk h1 h2)⟩
abbrev lrow (v : Value) : Option Obj := some (.cells #[.int .i64 3, .int .i64 0, .string ByteArray.empty, v] 24 (0, 0))
structure RI (g B : Nat) (p : Option Addr) (N c d u : Nat) (r0 : List UInt8) (w wr : World) (v : Value) (j : Nat) (pre : F) (xs : List Value) (l' : List UInt8) : Prop where
  eq : decl (decv d) u r0 = match decl (decv d) (u - j) l' with | some (f, r) => some (F.app pre f, r) | none => none
  own : OwnN 4 wr v j xs
  elts : Elts (Cut (mine w.heap.size v) wr) pre xs
  len : pre.len = j
  ge : ∀ k, v.ownBlock = some k → w.heap.size ≤ k
  rs : RS wr g p N c (N - l'.length) false
  box : wr.heap[B]? = lrow v
  chg : Chg2 g B w wr
  le : l'.length + j ≤ r0.length
theorem RI.next {g B N c d u j : Nat} {p : Option Addr} {r0 l' : List UInt8} {w wr w4 w5 : World} {v v5 L : Value} {pre : F} {xs : List Value} {x : Got} {o : Obj} (h : RI g B p N c d u r0 w wr v j pre xs l') (hj : j < u) (hl : l'.length ≤ 9223372036854775807) (hx : decv d l' = some x)
    (hg : g < w.heap.size) (hB : B < w.heap.size) (hgB : B ≠ g) (ho : Okv x.k x.n x.s) (hL : Sl (Cut (old wr.heap.size) w4) L x.q) (hr : RS w4 g p N c (N - x.r.length) false) (hc : Chg g wr w4)
    (o5 : OwnN 4 w5 v5 (j + 1) (xs ++ [.int .i64 x.k, .int .i64 x.n, .string x.s, L])) (g5 : (w4.alloc o).grownBy w5 v.ownBlock) (n5 : v5.ownBlock = v.ownBlock ∨ ∃ k, v5.ownBlock = some k ∧ (w4.alloc o).heap.size ≤ k) :
    RI g B p N c d u r0 w (w5.setCell ⟨B, 3, none⟩ v5) v5 (j + 1) (F.app pre (.cons x.k x.n x.s x.q .nil)) (xs ++ [.int .i64 x.k, .int .i64 x.n, .string x.s, L]) x.r := by
  have hs1 := h.chg.size
  have hs2 := hc.size
  have hs3 := g5.size
  rw [World.size_alloc] at hs3
  have hv : ∀ k, v.ownBlock = some k → k < wr.heap.size := fun k hk => h.own.lt hk
  have keep : ∀ k, k < w4.heap.size → v.ownBlock ≠ some k → w5.heap[k]? = w4.heap[k]? := fun k hk hne => by
    rw [g5.block k (by rw [World.size_alloc]; omega) (fun e => hne e.symm), heap_alloc_old _ _ hk]
  have fresh : ∀ k, k < w4.heap.size → v.ownBlock ≠ some k → v5.ownBlock ≠ some k := fun k hk hne e => by
    rcases n5 with e1 | ⟨k', e1, e2⟩
    · exact hne (by rw [← e1]; exact e)
    · rw [e1] at e
      simp only [Option.some.injEq] at e
      rw [World.size_alloc] at e2
      omega
  have ge5 : ∀ k, v5.ownBlock = some k → w.heap.size ≤ k := fun k hk => by
    rcases n5 with e1 | ⟨k', e1, e2⟩
    · exact h.ge k (by rw [← e1]; exact hk)
    · rw [e1] at hk
      simp only [Option.some.injEq] at hk
      rw [World.size_alloc] at e2
      omega
  have hsz : (w5.setCell ⟨B, 3, none⟩ v5).heap.size = w5.heap.size := by simp [World.setCell]
  have hset : ∀ k, k ≠ B → (w5.setCell ⟨B, 3, none⟩ v5).heap[k]? = w5.heap[k]? := fun k hk => Below.heap_setCell _ _ _ _ hk
  have hlen : x.r.length + 1 ≤ l'.length := by
    have := congrArg List.length (decv_only d l' x hl hx).enc
    simp only [enc1, List.length_append, List.length_cons] at this
    omega
  refine ⟨decl_next hj h.eq hx, o5.keep (by rw [hsz]; exact Nat.le_refl _) fun k hk => hset k (fun e => by have := ge5 k hk; omega), Elts.snoc ho ?_ (h.elts.cut ?_ ?_), by rw [F.app_len, h.len]; rfl, ge5, ?_, ?_, ?_, by have := h.le; omega⟩
  · refine cut_mono (by rw [hsz]; omega) (fun k hk hz => ?_) hL
    simp only [old, decide_eq_false_iff_not] at hz
    have hne : v.ownBlock ≠ some k := fun e => by have := hv k e; omega
    refine ⟨?_, (hset k (by omega)).trans (keep k hk hne)⟩
    simp only [mine, decide_eq_false_iff_not, not_or]
    exact ⟨by omega, fresh k hk hne⟩
  · rw [hsz]; omega
  · intro k hk hz
    simp only [mine, decide_eq_false_iff_not, not_or] at hz ⊢
    refine ⟨⟨hz.1, fresh k (by omega) hz.2⟩, ?_⟩
    rw [hset k (by omega), keep k (by omega) hz.2]
    exact hc.block k hk (by omega)
  · refine ((hset g (fun e => hgB e.symm)).trans (keep g (by omega) fun e => ?_)).trans hr
    have := h.ge g e; omega
  · have hb4 := (hc.block B (by omega) hgB).trans h.box
    have hb5 := (keep B (by omega) (fun e => by have := h.ge B e; omega)).trans hb4
    simp [World.setCell, Array.getElem?_modify, hb5]
  · have hc1 := h.chg.chg hc
    refine Chg2.setB ⟨g5.os.trans hc1.os, g5.tape.trans hc1.tape, g5.output.trans hc1.output, by omega, fun k hk hkg hkB => ?_⟩ v5
    rw [keep k (by omega) (fun e => by have := h.ge k e; omega)]
    exact hc1.block k hk hkg hkB
theorem RI.done {g B N c d u : Nat} {p : Option Addr} {r0 l' : List UInt8} {w wr : World} {v : Value} {pre : F} {xs : List Value} (h : RI g B p N c d u r0 w wr v u pre xs l') : decl (decv d) u r0 = some (pre, l') ∧ Sl (Cut (old w.heap.size) wr) v pre := by
  refine ⟨?_, ?_⟩
  · rw [h.eq, Nat.sub_self]
    simp only [decl, F.app_nil]
  · refine Elts.sl (h.own.keep (by rw [cut_size]; exact Nat.le_refl _) fun k hk => cut_in wr ?_) (h.elts.cut (Nat.le_refl _) fun k _ hz => ⟨?_, rfl⟩) h.len
    · have := h.ge k hk
      simp only [old, decide_eq_false_iff_not]
      omega
    · simp only [mine, old, decide_eq_false_iff_not, not_or] at hz ⊢
      exact hz.1
/-- the list has a value that is refused -/
structure RB (g B : Nat) (p : Option Addr) (N c d u : Nat) (r0 : List UInt8) (w wr : World) : Prop where
  eq : decl (decv d) u r0 = none
  rs : ∃ a, RS wr g p N c a true
  box : ∃ q m z, wr.heap[B]? = lrow (.slice q m z)
  chg : Chg2 g B w wr
theorem RI.stop {g B N c d u j : Nat} {p : Option Addr} {r0 l' : List UInt8} {w wr w4 w5 : World} {v v5 : Value} {pre : F} {xs ys : List Value} {o : Obj} {a : Nat} (h : RI g B p N c d u r0 w wr v j pre xs l') (hj : j < u) (hx : decv d l' = none)
    (hg : g < w.heap.size) (hB : B < w.heap.size) (hgB : B ≠ g) (hr : RS w4 g p N c a true) (hc : Chg g wr w4)
    (o5 : OwnN 4 w5 v5 (j + 1) ys) (g5 : (w4.alloc o).grownBy w5 v.ownBlock) : RB g B p N c d u r0 w (w5.setCell ⟨B, 3, none⟩ v5) := by
  have hs1 := h.chg.size
  have hs2 := hc.size
  have hs3 := g5.size
  rw [World.size_alloc] at hs3
  have keep : ∀ k, k < w4.heap.size → v.ownBlock ≠ some k → w5.heap[k]? = w4.heap[k]? := fun k hk hne => by
    rw [g5.block k (by rw [World.size_alloc]; omega) (fun e => hne e.symm), heap_alloc_old _ _ hk]
  have hset : ∀ k, k ≠ B → (w5.setCell ⟨B, 3, none⟩ v5).heap[k]? = w5.heap[k]? := fun k hk => Below.heap_setCell _ _ _ _ hk
  refine ⟨decl_stop hj h.eq hx, ⟨a, ((hset g (fun e => hgB e.symm)).trans (keep g (by omega) fun e => by have := h.ge g e; omega)).trans hr⟩, ?_, ?_⟩
  · obtain ⟨q, m, z, rfl⟩ : ∃ q m z, v5 = .slice q m z := by
      rcases o5 with ⟨rfl, _⟩ | ⟨k, z, rfl, _⟩
      · exact ⟨_, _, _, rfl⟩
      · exact ⟨_, _, _, rfl⟩
    have hb4 := (hc.block B (by omega) hgB).trans h.box
    have hb5 := (keep B (by omega) (fun e => by have := h.ge B e; omega)).trans hb4
    exact ⟨q, m, z, by simp [World.setCell, Array.getElem?_modify, hb5]⟩
  · have hc1 := h.chg.chg hc
    refine Chg2.setB ⟨g5.os.trans hc1.os, g5.tape.trans hc1.tape, g5.output.trans hc1.output, by omega, fun k hk hkg hkB => ?_⟩ v5
    rw [keep k (by omega) (fun e => by have := h.ge k e; omega)]
    exact hc1.block k hk hkg hkB
end Go.Proofs.Ytaahmfmelmjahaa
namespace Go.Proofs.Ytaahmfmelmjahaa
open Go Go.RowKit
theorem Chg.cell3 {g B : Nat} {w w' : World} {v : Value} (hc : Chg g w w') (h : w.heap[B]? = lrow v) (hB : B ≠ g) : w'.cell? ⟨B, 3, none⟩ = some v ∧ w'.frozen? ⟨B, 3, none⟩ = false ∧ w'.heap[B]? = lrow v := by
  have hb := (hc.block B (Array.getElem?_eq_some_iff.1 h).1 hB).trans h
  exact ⟨by simp [World.cell?, hb], by simp [World.frozen?, hb], hb⟩
theorem alloc3 {B : Nat} {w : World} {o : Obj} {v : Value} (h : w.heap[B]? = lrow v) : (w.alloc o).cell? ⟨B, 3, none⟩ = some v := by
  have hb := (heap_alloc_old w o (Array.getElem?_eq_some_iff.1 h).1).trans h
  simp [World.cell?, hb]
theorem Chg2.whole {g B : Nat} {w w1 wr : World} {o : Obj} (h : Chg g w w1) (hB : w1.heap.size ≤ B) (hc : Chg2 g B (w1.alloc o) wr) : Chg g w wr := by
  have hs := hc.size
  have hs1 := h.size
  rw [World.size_alloc] at hs
  exact ⟨hc.os.trans h.os, hc.tape.trans h.tape, hc.output.trans h.output, by omega, fun k hk hg => by
    rw [hc.block k (by rw [World.size_alloc]; omega) hg (by omega), heap_alloc_old _ _ (by omega)]
    exact h.block k hk hg⟩
theorem ownN_shp {sz n : Nat} {w : World} {v : Value} {xs : List Value} (h : OwnN sz w v n xs) : ∃ p c, v = .slice p n c := by
  rcases h with ⟨rfl, rfl, _⟩ | ⟨g, cap, rfl, _⟩
  · exact ⟨_, _, rfl⟩
  · exact ⟨_, _, rfl⟩
theorem four_other (w : World) {k B : Nat} (h : k ≠ B) (x y z u : Value) : ((((w.setCell ⟨B, 0, none⟩ x).setCell ⟨B, 1, none⟩ y).setCell ⟨B, 2, none⟩ z).setCell ⟨B, 3, none⟩ u).heap[k]? = w.heap[k]? := by
  rw [Below.heap_setCell _ _ _ _ h, Below.heap_setCell _ _ _ _ h, Below.heap_setCell _ _ _ _ h, Below.heap_setCell _ _ _ _ h]
theorem four_size (w : World) (B : Nat) (x y z u : Value) : w.heap.size ≤ ((((w.setCell ⟨B, 0, none⟩ x).setCell ⟨B, 1, none⟩ y).setCell ⟨B, 2, none⟩ z).setCell ⟨B, 3, none⟩ u).heap.size := by simp [World.setCell]
theorem list_cells {B : Nat} {w : World} {v : Value} (h : w.heap[B]? = lrow v) : w.cell? ⟨B, 0, none⟩ = some (.int .i64 3) ∧ w.cell? ⟨B, 1, none⟩ = some (.int .i64 0) ∧ w.cell? ⟨B, 2, none⟩ = some (.string ByteArray.empty) ∧ w.cell? ⟨B, 3, none⟩ = some v :=
  ⟨by simp [World.cell?, h], by simp [World.cell?, h], by simp only [World.cell?, h]; rfl, by simp [World.cell?, h]⟩
theorem grown3 {B : Nat} {w w' : World} {o : Obj} {v : Value} {row : Option Nat} (hg : (w.alloc o).grownBy w' row) (h : w.heap[B]? = lrow v) (hne : row = some B → False) : w'.cell? ⟨B, 3, none⟩ = some v ∧ w'.frozen? ⟨B, 3, none⟩ = false := by
  have hlt := (Array.getElem?_eq_some_iff.1 h).1
  have hb := (hg.block B (by rw [World.size_alloc]; omega) (fun e => hne e.symm)).trans ((heap_alloc_old w o hlt).trans h)
  exact ⟨by simp [World.cell?, hb], by simp [World.frozen?, hb]⟩
def RvOK (d : Nat) : Prop := ∀ (g b : Nat) (p : Option Addr) (N c a : Nat) (l : List UInt8) (w : World) (D : Int), RS w g p N c a false → Bts w g b p l → l.length = N → N ≤ 1099511627776 → N ≤ c → c ≤ 9223372036854775807 → a ≤ N → D = 16 - (d : Int) →
  Calls Try.prog 37 #[.pointer (some ⟨g, 0, none⟩), .int .i64 D] w (RVal g p N c d (l.drop a) w)
set_option maxRecDepth 100000 in
set_option maxHeartbeats 4000000 in
theorem rval_list (d : Nat) (hd16 : d + 1 ≤ 16) (ih : RvOK d) (g b : Nat) (p : Option Addr) (N c a : Nat) (x : UInt8) (l : List UInt8) (w : World) (D : Int) (hs : RS w g p N c a false) (hb : Bts w g b p l) (hl : l.length = N) (hN : N ≤ 1099511627776) (hc : N ≤ c) (hc2 : c ≤ 9223372036854775807) (hx : l[a]? = some x) (h1 : x.toNat = 3) (hD : D = 16 - ((d + 1 : Nat) : Int)) :
    Calls Try.prog 37 #[.pointer (some ⟨g, 0, none⟩), .int .i64 D] w (RVal g p N c (d + 1) (l.drop a) w) := by
  have hlt := hs.lt
  have ha : a < N := by have := (List.getElem?_eq_some_iff.1 hx).1; omega
  have hd : decv (d + 1) (l.drop a) = match dnum (l.drop (a + 1)) with | none => none | some (u, r) => match decl (decv d) u r with | none => none | some (f, r') => some ⟨3, 0, ByteArray.empty, f, r'⟩ := by
    rw [drop_next hx]
    unfold decv
    rw [if_neg (by omega), if_neg (by omega), if_pos h1]
    cases dnum (l.drop (a + 1)) <;> rfl
  have H1 := Lib.hid (fun (o' : Obj) => rnext_yes g b _ N c a false x l (w.alloc o') (hs.below (one_new w o')) (hb.chg (Chg.refl g (w.alloc o')).alloc) hl hx hN)
  have H2 := Lib.hid (fun (W : World) (h : RS W g p N c (a + 1) false) (hc : Chg g w W) => rnumber_any g b _ N c (a + 1) l W h (hb.chg hc) hl hN (by omega))
  have HIH := Lib.hid (fun (a' : Nat) (W : World) (h : RS W g p N c a' false) (hb : Bts W g b p l) (ha' : a' ≤ N) => ih g b p N c a' l W (D + 1) h hb hl hN hc hc2 ha' (by omega))
  have HDC := Lib.hid hd
  have HBT := Lib.hid hb
  have HLL := Lib.hid hl
  have hx1 : (x.toNat : Int) = 3 := by omega
  have hD1 : 0 ≤ D ∧ D < 16 := by omega
  obtain ⟨hD0, hD16⟩ := hD1
  have hDn : ¬ D = 16 := by omega
  have hDb : (D == 16) = false := by simpa using hDn
  have hDw : IntKind.i64.wrap (D + 1) = D + 1 := IntWalk.i64_in _ (by omega)
  clear hs hb hd hx hl ih hD
  go_enter Try.func37, Try.ntmps37
  go_wp2_with fail
  refine (H1.out _).mono ?_
  rintro e w1 ⟨rfl, hs1, hc1⟩
  have hr := hc1.block w.heap.size (by simp) (by omega)
  rw [heap_alloc_new] at hr
  have HR1 := Lib.hid hr
  have HC1 := Lib.hid hc1.alloc
  have HS1 := Lib.hid hs1
  clear hr hc1 hs1
  go_wp2_with fail
  refine (H2.out _ HS1.out HC1.out).mono ?_
  rintro e w2 hn
  have hz1 := HC1.out.size
  have hzz : w.heap.size < w1.heap.size := (Array.getElem?_eq_some_iff.1 HR1.out).1
  unfold RNum at hn
  have hgn : w.heap.size ≠ g := by omega
  cases hdn : dnum (l.drop (a + 1)) with
  | none =>
    rw [hdn] at hn
    obtain ⟨rfl, ⟨a2, hs2⟩, hc2⟩ := hn
    have hr2 := (hc2.block w.heap.size hzz hgn).trans HR1.out
    have hD : decv (d + 1) (l.drop a) = none := by rw [HDC.out, hdn]
    have HDD := Lib.hid hD
    have HS2 := Lib.hid hs2
    have HC2 := Lib.hid (HC1.out.trans hc2)
    have HR2 := Lib.hid hr2
    obtain ⟨g0, g1, g2, gf⟩ := hs2.cells
    have G2 := Later.cell (w := w2) hs2.lt g2
    clear hD hdn hs2 hc2 hr2 HDC H2 g0 g1
    go_upto_region 16 with fail
    refine wp_region_later (by kernel_rfl) (by kernel_rfl) ?_
    repeat (go_big_quiet_step (fail))
    refine wpQuiet_nil ?_
    intro _ hw'
    obtain ⟨y, hy⟩ := hw'
    subst hy
    have HS3 := Lib.hid (HS2.out.below y.b)
    have hr3 := (y.b.block w.heap.size (Array.getElem?_eq_some_iff.1 HR2.out).1).trans HR2.out
    have HC3 := Lib.hid (HC2.out.trans ⟨y.b.os, y.b.tape, y.b.output, y.b.size, fun k hk _ => y.b.block k hk⟩)
    obtain ⟨z0, z1, z2, z3, f0⟩ := zero_cells hr3
    have HR3 := Lib.hid hr3
    obtain ⟨g0, g1, g2', gf'⟩ := HS3.out.cells
    have f2 := gf' 2
    clear hr3 g0 g1 gf gf' G2 g2
    go_wp2_with fail
    exact bodyPost_ret (results_cell_row rfl _ _ w.heap.size 24 _ (0, 0) _ rfl (set_four (((chg_set' g 2 y.v (.bool true)).block w.heap.size (Array.getElem?_eq_some_iff.1 HR3.out).1 hgn).trans HR3.out)) Try.underlying24 rfl (by kernel_rfl)) rfl (RVal.none HDD.out rfl ((HS3.out.set2 true).four hgn _ _ _ _) ((HC3.out.trans (chg_set' g 2 y.v _)).four (Nat.le_refl _) _ _ _ _))
  | some ur =>
    obtain ⟨u, r⟩ := ur
    rw [hdn] at hn
    obtain ⟨rfl, hs2, hc2'⟩ := hn
    have hu := (dnum_only hdn).2
    obtain ⟨hrd, hrl⟩ := suffix_drop (dnum_only hdn).1 HLL.out (by omega)
    have hr2 := (hc2'.block w.heap.size hzz hgn).trans HR1.out
    have hD : decv (d + 1) (l.drop a) = match decl (decv d) u r with | none => none | some (f, r') => some ⟨3, 0, ByteArray.empty, f, r'⟩ := by rw [HDC.out, hdn]
    have hlong : r.length < u → decl (decv d) u r = none := fun h => by
      cases hdl : decl (decv d) u r with
      | none => rfl
      | some fr =>
        obtain ⟨f, r'⟩ := fr
        obtain ⟨_, e2, _, _, _, e6⟩ := decl_only (decv_only d) u r f r' (by omega) hdl
        omega
    have HRD := Lib.hid hrd
    obtain ⟨m, hm⟩ : ∃ m, r.length = m := ⟨_, rfl⟩
    rw [hm] at hs2 hrl hlong
    obtain ⟨a2, ha2⟩ : ∃ a2, N - m = a2 := ⟨_, rfl⟩
    rw [ha2] at hs2
    have hma : a2 + m = N := by omega
    have HDD := Lib.hid hD
    have HS2 := Lib.hid hs2
    have HC2 := Lib.hid (HC1.out.trans hc2')
    have HR2 := Lib.hid hr2
    have HLO := Lib.hid hlong
    obtain ⟨g0, g1, g2, gf⟩ := hs2.cells
    have G0 := Later.cell (w := w2) hs2.lt g0
    have G1 := Later.cell (w := w2) hs2.lt g1
    have G2 := Later.cell (w := w2) hs2.lt g2
    have hsub : ((N : Int) - (a2 : Int)) = (m : Int) := by omega
    have hw1 : IntKind.i64.wrap ((N : Int) - (a2 : Int)) = (m : Int) := by rw [hsub]; exact IntWalk.i64_in _ (by omega)
    clear hD hdn hs2 hc2' hr2 HDC H2 H1 g0 g1 g2 gf hrd hlong
    by_cases hum : u ≤ m
    · have k1 : ¬ (m : Int) < (u : Int) := by omega
      have k1' : ¬ m < u := by omega
      go_upto_region 16 with fail
      refine wp_region_later (by kernel_rfl) (by kernel_rfl) ?_
      repeat (go_big_quiet_step (fail))
      refine wpQuiet_nil ?_
      intro _ hw'
      obtain ⟨y, hy⟩ := hw'
      subst hy
      have HS3 := Lib.hid (HS2.out.below y.b)
      have hr3 := (y.b.block w.heap.size (Array.getElem?_eq_some_iff.1 HR2.out).1).trans HR2.out
      have HC3 := Lib.hid (HC2.out.trans ⟨y.b.os, y.b.tape, y.b.output, y.b.size, fun k hk _ => y.b.block k hk⟩)
      have HR3 := Lib.hid hr3
      clear hr3 G0 G1 G2
      go_wp2_with fail
      have hW8 := one_new y.v (.cells #[.int .i64 3, .int .i64 0, .string ByteArray.empty, .slice none 0 0] 24)
      have hbox : (y.v.alloc (.cells #[.int .i64 3, .int .i64 0, .string ByteArray.empty, .slice none 0 0] 24)).heap[y.v.heap.size]? = lrow (.slice none 0 0) := heap_alloc_new _ _
      have hz8 : (y.v.alloc (.cells #[.int .i64 3, .int .i64 0, .string ByteArray.empty, .slice none 0 0] 24)).heap.size = y.v.heap.size + 1 := World.size_alloc _ _
      have hg3 := HS3.out.lt
      have hr8 := HS3.out.below hW8
      have hstart : RI g y.v.heap.size p N c d u r (y.v.alloc (.cells #[.int .i64 3, .int .i64 0, .string ByteArray.empty, .slice none 0 0] 24)) (y.v.alloc (.cells #[.int .i64 3, .int .i64 0, .string ByteArray.empty, .slice none 0 0] 24)) (.slice none 0 0) 0 .nil [] r := ⟨by
        simp only [Nat.sub_zero]
        cases decl (decv d) u r with
        | none => rfl
        | some a => rfl, OwnN.nil 4 _, rfl, rfl, (fun k h => by cases h), by rw [hm, ha2]; exact hr8, hbox, Chg2.refl _ _ _, by omega⟩
      have hWH : ∀ wr, Chg2 g y.v.heap.size (y.v.alloc (.cells #[.int .i64 3, .int .i64 0, .string ByteArray.empty, .slice none 0 0] 24)) wr → Chg g w wr := fun wr h => Chg2.whole HC3.out (Nat.le_refl _) h
      have hR4 : ∀ wr, Chg2 g y.v.heap.size (y.v.alloc (.cells #[.int .i64 3, .int .i64 0, .string ByteArray.empty, .slice none 0 0] 24)) wr → wr.heap[w.heap.size]? = _ := fun wr h => (h.block w.heap.size (by rw [hz8]; have := (Array.getElem?_eq_some_iff.1 HR3.out).1; omega) hgn (by have := (Array.getElem?_eq_some_iff.1 HR3.out).1; omega)).trans ((heap_alloc_old y.v _ (Array.getElem?_eq_some_iff.1 HR3.out).1).trans HR3.out)
      have HST := Lib.hid hstart
      have HWH := Lib.hid hWH
      have HR4 := Lib.hid hR4
      have hg0 : g < (y.v.alloc (.cells #[.int .i64 3, .int .i64 0, .string ByteArray.empty, .slice none 0 0] 24)).heap.size := by rw [hz8]; omega
      have hB0 : y.v.heap.size < (y.v.alloc (.cells #[.int .i64 3, .int .i64 0, .string ByteArray.empty, .slice none 0 0] 24)).heap.size := by rw [hz8]; omega
      have hgB : y.v.heap.size ≠ g := by omega
      have hB4 : y.v.heap.size ≠ w.heap.size := by have := (Array.getElem?_eq_some_iff.1 HR3.out).1; omega
      obtain ⟨i1, hj, hy0, hy1, hy2⟩ := info_parts Try.info24
      have hgen : (⟨#[]⟩ : ByteArray) = ByteArray.empty := rfl
      rw [hgen]
      clear hstart hWH hR4 hbox hW8 hr8 hz8 HS3 HR3
      generalize y.v.alloc (.cells #[.int .i64 3, .int .i64 0, .string ByteArray.empty, .slice none 0 0] 24) = W8 at *
      generalize y.v.heap.size = B at *
      go_loopw [9] (fun i wr => ∃ j : Nat, i = .int .u64 (j : Int) ∧ j ≤ u ∧ ((∃ v pre xs l', Hid (RI g B p N c d u r W8 wr v j pre xs l' ∧ l' = l.drop (N - l'.length))) ∨ Hid (RB g B p N c d u r W8 wr))) (fun i _ => u - (intOf i).toNat)
      case atStart => exact ⟨0, rfl, Nat.zero_le _, .inl ⟨_, _, _, _, Lib.hid ⟨HST.out, by rw [hm, ha2]; rw [← ha2, ← hm]; exact HRD.out⟩⟩⟩
      case round =>
        clear HST
        obtain ⟨j, rfl, hju, ⟨v, pre, xs, l', hI⟩ | hB⟩ := hrel
        · have HI := Lib.hid hI.out.1
          have HSF := Lib.hid hI.out.2
          have hle := HI.out.le
          clear hI
          by_cases hlt : j < u
          · have k3 : (j : Int) < (u : Int) := by omega
            have HC9 := Lib.hid (HWH.out wr HI.out.chg)
            have hcall := HIH.out (N - l'.length) wr.drew (HI.out.rs.below (drew_below wr)) ((HBT.out.chg HC9.out).chg (chg_drew g wr)) (by omega)
            rw [← HSF.out] at hcall
            have QW : Hid (wr.drew.cell? ⟨B, 3, none⟩ = some v) := Lib.hid (by have h9 := HI.out.box; show wr.cell? ⟨B, 3, none⟩ = _; simp [World.cell?, h9])
            obtain ⟨g0, g1, g2, _⟩ := HI.out.rs.cells
            unfold RVal at hcall
            cases hdx : decv d l' with
            | none =>
              simp only [hdx] at hcall
              have HX := Lib.hid hcall
              have HDX := Lib.hid hdx
              clear hcall hdx g0 g1
              go_upto_region 23 with fail
              refine wp_region_held_drew (S := fun _ => True) (by kernel_rfl) trivial (fun hHeld => ?_)
              refine take_at (i := 0) (k := 128) (v := .pointer (some ⟨B, 3, none⟩)) rfl rfl (by kernel_rfl) (by kernel_rfl) (by kernel_rfl) (fun _ _ _ h => h) (Or.inl ⟨by rfl, fun w _ => by go_simp⟩) hHeld ?_
              try simp only [Act.put, List.setIfInBounds_toArray, List.set_cons_zero, List.set_cons_succ]
              refine take_at (i := 2) (k := 130) (v := .pointer (some ⟨g, 0, none⟩)) rfl rfl (by kernel_rfl) (by kernel_rfl) (by kernel_rfl) (fun _ _ _ h => h) (Or.inl ⟨by rfl, fun w _ => by go_simp⟩) hHeld ?_
              try simp only [Act.put, List.setIfInBounds_toArray, List.set_cons_zero, List.set_cons_succ]
              refine take_at (i := 3) (k := 131) (v := .int .i64 D) rfl rfl (by kernel_rfl) (by kernel_rfl) (by kernel_rfl) (fun _ _ _ h => h) (Or.inl ⟨by rfl, fun w _ => by go_simp⟩) hHeld ?_
              try simp only [Act.put, List.setIfInBounds_toArray, List.set_cons_zero, List.set_cons_succ]
              refine take_at (i := 4) (k := 132) (v := .int .i64 (D + 1)) rfl rfl (by kernel_rfl) (by kernel_rfl) (by kernel_rfl) (fun _ _ _ h => h) (Or.inl ⟨by rfl, fun w _ => by go_simp⟩) hHeld ?_
              try simp only [Act.put, List.setIfInBounds_toArray, List.set_cons_zero, List.set_cons_succ]
              clear hHeld
              refine wpAnyH_ready (rs := [1, 5]) (by kernel_rfl) (by simp) ?_
              refine AllReadyH.cons rfl (fun K hK => ?_) (AllReadyH.cons rfl (fun K hK => ?_) AllReadyH.nil)
              · rw [if_pos (by rfl)]
                have qq : wr.drew.cell? ⟨B, 3, none⟩ = some v := QW.out
                go_simp
                clear qq
                refine hK.out _ _ trivial (fun hHeld => ?_)
                try simp only [Act.put, List.setIfInBounds_toArray, List.set_cons_zero, List.set_cons_succ]
                clear hK K
                clear hHeld
                refine wpAnyH_ready (rs := [5]) (by kernel_rfl) (by simp) ?_
                refine AllReadyH.cons rfl (fun K hK => ?_) AllReadyH.nil
                rw [if_pos (by rfl)]
                go_simp
                go_at_call 37
                refine HX.out.mono ?_
                rintro e w4 ⟨k9, n9, s9, pL, m9, cL, rfl, ⟨a9, hr4⟩, hc4⟩
                have HR4 := Lib.hid hr4
                have HC4 := Lib.hid ((chg_drew g wr).trans hc4)
                have Q4 := Lib.hid ((HC4.out.cell3 HI.out.box hgB).1)
                have HO4 := Lib.hid (HI.out.own.keep HC4.out.size fun k hk => HC4.out.block k (HI.out.own.lt hk) (fun e => by have := HI.out.ge k hk; omega))
                clear hr4 hc4
                refine hK.out _ _ trivial (fun hHeld => ?_)
                try simp only [Act.put, List.setIfInBounds_toArray, List.set_cons_zero, List.set_cons_succ]
                clear hK K
                clear hHeld
                refine wpAnyH_ready (rs := [6]) (by kernel_rfl) (by simp) ?_
                refine AllReadyH.cons rfl (fun K hK => ?_) AllReadyH.nil
                rw [if_pos (by rfl)]
                go_simp
                refine hK.out _ _ trivial (fun hHeld => ?_)
                try simp only [Act.put, List.setIfInBounds_toArray, List.set_cons_zero, List.set_cons_succ]
                clear hK K
                clear hHeld
                refine wpAnyH_ready (rs := [7]) (by kernel_rfl) (by simp) ?_
                refine AllReadyH.cons rfl (fun K hK => ?_) AllReadyH.nil
                rw [if_pos (by rfl)]
                refine wp_ownN (.tmp 129) (.tmp 134) 22 22 rfl 24 i1 _ 56 Try.underlying22 hj hy0 hy1 (by omega) hy2 rfl v _ xs rfl (HO4.out.alloc _) 1 [.int .i64 k9, .int .i64 n9, .string s9, .slice pL m9 cL] rfl (src_val (heap_alloc_new _ _)) (by unfold maxLen; omega) (by omega) ?_
                intro v7 w7 hown7 hgrow7 hnew7
                have HO7 := Lib.hid hown7
                have HG7 := Lib.hid hgrow7
                have HN7 := Lib.hid hnew7
                have Q7 := Lib.hid (grown3 HG7.out (HC4.out.cell3 HI.out.box hgB).2.2 (fun e => by have := HI.out.ge B e; omega))
                obtain ⟨p7, m7, c7, e7⟩ : ∃ p m c, v7 = .slice p m c := by
                  obtain ⟨p, c, e⟩ := ownN_shp HO7.out
                  exact ⟨p, _, c, e⟩
                clear hown7 hgrow7 hnew7
                refine hK.out _ _ trivial (fun hHeld => ?_)
                try simp only [Act.put, List.setIfInBounds_toArray, List.set_cons_zero, List.set_cons_succ]
                clear hK K
                refine take_at (i := 8) (k := 136) (v := .pointer (some ⟨B, 3, none⟩)) rfl rfl (by kernel_rfl) (by kernel_rfl) (by kernel_rfl) (fun _ _ _ h => h) (Or.inl ⟨by rfl, fun w _ => by go_simp⟩) hHeld ?_
                try simp only [Act.put, List.setIfInBounds_toArray, List.set_cons_zero, List.set_cons_succ]
                clear hHeld
                refine wpAnyH_ready (rs := [9]) (by kernel_rfl) (by simp) ?_
                refine AllReadyH.cons rfl (fun K hK => ?_) AllReadyH.nil
                rw [if_pos (by rfl)]
                have qq := Q7.out.1
                have ff := Q7.out.2
                subst e7
                go_simp
                clear qq ff
                refine hK.out _ _ trivial (fun hHeld => ?_)
                try simp only [Act.put, List.setIfInBounds_toArray, List.set_cons_zero, List.set_cons_succ]
                clear hK K
                clear hHeld
                refine wpAnyH_done (by kernel_rfl) ?_ _
                have hnx := HI.out.stop hlt HDX.out hg0 hB0 hgB HR4.out HC4.out HO7.out HG7.out
                have HNX := Lib.hid hnx
                clear hnx
                go_wp2_with fail
                go_roundw
                case rel => exact ⟨j + 1, by go_num, by omega, .inr HNX⟩
                case measure => simp [intOf]; omega
              · rw [if_pos (by rfl)]
                go_simp
                go_at_call 37
                refine HX.out.mono ?_
                rintro e w4 ⟨k9, n9, s9, pL, m9, cL, rfl, ⟨a9, hr4⟩, hc4⟩
                have HR4 := Lib.hid hr4
                have HC4 := Lib.hid ((chg_drew g wr).trans hc4)
                have Q4 := Lib.hid ((HC4.out.cell3 HI.out.box hgB).1)
                have HO4 := Lib.hid (HI.out.own.keep HC4.out.size fun k hk => HC4.out.block k (HI.out.own.lt hk) (fun e => by have := HI.out.ge k hk; omega))
                clear hr4 hc4
                refine hK.out _ _ trivial (fun hHeld => ?_)
                try simp only [Act.put, List.setIfInBounds_toArray, List.set_cons_zero, List.set_cons_succ]
                clear hK K
                clear hHeld
                refine wpAnyH_ready (rs := [1, 6]) (by kernel_rfl) (by simp) ?_
                refine AllReadyH.cons rfl (fun K hK => ?_) (AllReadyH.cons rfl (fun K hK => ?_) AllReadyH.nil)
                · rw [if_pos (by rfl)]
                  have qq : w4.cell? ⟨B, 3, none⟩ = some v := Q4.out
                  go_simp
                  clear qq
                  refine hK.out _ _ trivial (fun hHeld => ?_)
                  try simp only [Act.put, List.setIfInBounds_toArray, List.set_cons_zero, List.set_cons_succ]
                  clear hK K
                  clear hHeld
                  refine wpAnyH_ready (rs := [6]) (by kernel_rfl) (by simp) ?_
                  refine AllReadyH.cons rfl (fun K hK => ?_) AllReadyH.nil
                  rw [if_pos (by rfl)]
                  go_simp
                  refine hK.out _ _ trivial (fun hHeld => ?_)
                  try simp only [Act.put, List.setIfInBounds_toArray, List.set_cons_zero, List.set_cons_succ]
                  clear hK K
                  clear hHeld
                  refine wpAnyH_ready (rs := [7]) (by kernel_rfl) (by simp) ?_
                  refine AllReadyH.cons rfl (fun K hK => ?_) AllReadyH.nil
                  rw [if_pos (by rfl)]
                  refine wp_ownN (.tmp 129) (.tmp 134) 22 22 rfl 24 i1 _ 56 Try.underlying22 hj hy0 hy1 (by omega) hy2 rfl v _ xs rfl (HO4.out.alloc _) 1 [.int .i64 k9, .int .i64 n9, .string s9, .slice pL m9 cL] rfl (src_val (heap_alloc_new _ _)) (by unfold maxLen; omega) (by omega) ?_
                  intro v7 w7 hown7 hgrow7 hnew7
                  have HO7 := Lib.hid hown7
                  have HG7 := Lib.hid hgrow7
                  have HN7 := Lib.hid hnew7
                  have Q7 := Lib.hid (grown3 HG7.out (HC4.out.cell3 HI.out.box hgB).2.2 (fun e => by have := HI.out.ge B e; omega))
                  obtain ⟨p7, m7, c7, e7⟩ : ∃ p m c, v7 = .slice p m c := by
                    obtain ⟨p, c, e⟩ := ownN_shp HO7.out
                    exact ⟨p, _, c, e⟩
                  clear hown7 hgrow7 hnew7
                  refine hK.out _ _ trivial (fun hHeld => ?_)
                  try simp only [Act.put, List.setIfInBounds_toArray, List.set_cons_zero, List.set_cons_succ]
                  clear hK K
                  refine take_at (i := 8) (k := 136) (v := .pointer (some ⟨B, 3, none⟩)) rfl rfl (by kernel_rfl) (by kernel_rfl) (by kernel_rfl) (fun _ _ _ h => h) (Or.inl ⟨by rfl, fun w _ => by go_simp⟩) hHeld ?_
                  try simp only [Act.put, List.setIfInBounds_toArray, List.set_cons_zero, List.set_cons_succ]
                  clear hHeld
                  refine wpAnyH_ready (rs := [9]) (by kernel_rfl) (by simp) ?_
                  refine AllReadyH.cons rfl (fun K hK => ?_) AllReadyH.nil
                  rw [if_pos (by rfl)]
                  have qq := Q7.out.1
                  have ff := Q7.out.2
                  subst e7
                  go_simp
                  clear qq ff
                  refine hK.out _ _ trivial (fun hHeld => ?_)
                  try simp only [Act.put, List.setIfInBounds_toArray, List.set_cons_zero, List.set_cons_succ]
                  clear hK K
                  clear hHeld
                  refine wpAnyH_done (by kernel_rfl) ?_ _
                  have hnx := HI.out.stop hlt HDX.out hg0 hB0 hgB HR4.out HC4.out HO7.out HG7.out
                  have HNX := Lib.hid hnx
                  clear hnx
                  go_wp2_with fail
                  go_roundw
                  case rel => exact ⟨j + 1, by go_num, by omega, .inr HNX⟩
                  case measure => simp [intOf]; omega
                · rw [if_pos (by rfl)]
                  go_simp
                  refine hK.out _ _ trivial (fun hHeld => ?_)
                  try simp only [Act.put, List.setIfInBounds_toArray, List.set_cons_zero, List.set_cons_succ]
                  clear hK K
                  clear hHeld
                  refine wpAnyH_ready (rs := [1]) (by kernel_rfl) (by simp) ?_
                  refine AllReadyH.cons rfl (fun K hK => ?_) AllReadyH.nil
                  rw [if_pos (by rfl)]
                  have qq := alloc3 (o := .cells #[.int .i64 k9, .int .i64 n9, .string s9, .slice pL m9 cL] 24) (HC4.out.cell3 HI.out.box hgB).2.2
                  go_simp
                  clear qq
                  refine hK.out _ _ trivial (fun hHeld => ?_)
                  try simp only [Act.put, List.setIfInBounds_toArray, List.set_cons_zero, List.set_cons_succ]
                  clear hK K
                  clear hHeld
                  refine wpAnyH_ready (rs := [7]) (by kernel_rfl) (by simp) ?_
                  refine AllReadyH.cons rfl (fun K hK => ?_) AllReadyH.nil
                  rw [if_pos (by rfl)]
                  refine wp_ownN (.tmp 129) (.tmp 134) 22 22 rfl 24 i1 _ 56 Try.underlying22 hj hy0 hy1 (by omega) hy2 rfl v _ xs rfl (HO4.out.alloc _) 1 [.int .i64 k9, .int .i64 n9, .string s9, .slice pL m9 cL] rfl (src_val (heap_alloc_new _ _)) (by unfold maxLen; omega) (by omega) ?_
                  intro v7 w7 hown7 hgrow7 hnew7
                  have HO7 := Lib.hid hown7
                  have HG7 := Lib.hid hgrow7
                  have HN7 := Lib.hid hnew7
                  have Q7 := Lib.hid (grown3 HG7.out (HC4.out.cell3 HI.out.box hgB).2.2 (fun e => by have := HI.out.ge B e; omega))
                  obtain ⟨p7, m7, c7, e7⟩ : ∃ p m c, v7 = .slice p m c := by
                    obtain ⟨p, c, e⟩ := ownN_shp HO7.out
                    exact ⟨p, _, c, e⟩
                  clear hown7 hgrow7 hnew7
                  refine hK.out _ _ trivial (fun hHeld => ?_)
                  try simp only [Act.put, List.setIfInBounds_toArray, List.set_cons_zero, List.set_cons_succ]
                  clear hK K
                  refine take_at (i := 8) (k := 136) (v := .pointer (some ⟨B, 3, none⟩)) rfl rfl (by kernel_rfl) (by kernel_rfl) (by kernel_rfl) (fun _ _ _ h => h) (Or.inl ⟨by rfl, fun w _ => by go_simp⟩) hHeld ?_
                  try simp only [Act.put, List.setIfInBounds_toArray, List.set_cons_zero, List.set_cons_succ]
                  clear hHeld
                  refine wpAnyH_ready (rs := [9]) (by kernel_rfl) (by simp) ?_
                  refine AllReadyH.cons rfl (fun K hK => ?_) AllReadyH.nil
                  rw [if_pos (by rfl)]
                  have qq := Q7.out.1
                  have ff := Q7.out.2
                  subst e7
                  go_simp
                  clear qq ff
                  refine hK.out _ _ trivial (fun hHeld => ?_)
                  try simp only [Act.put, List.setIfInBounds_toArray, List.set_cons_zero, List.set_cons_succ]
                  clear hK K
                  clear hHeld
                  refine wpAnyH_done (by kernel_rfl) ?_ _
                  have hnx := HI.out.stop hlt HDX.out hg0 hB0 hgB HR4.out HC4.out HO7.out HG7.out
                  have HNX := Lib.hid hnx
                  clear hnx
                  go_wp2_with fail
                  go_roundw
                  case rel => exact ⟨j + 1, by go_num, by omega, .inr HNX⟩
                  case measure => simp [intOf]; omega
            | some x =>
              simp only [hdx] at hcall
              have HX := Lib.hid hcall
              have HDX := Lib.hid hdx
              have hsuf : x.r = l.drop (N - x.r.length) := (suffix_drop (a := N - l'.length) (y := enc1 x.k x.n x.s x.q) (by rw [← HSF.out]; exact (decv_only d l' x (by omega) hdx).enc) HLL.out (by omega)).1
              have HSX := Lib.hid hsuf
              clear hcall hdx g0 g1 hsuf
              go_upto_region 23 with fail
              refine wp_region_held_drew (S := fun _ => True) (by kernel_rfl) trivial (fun hHeld => ?_)
              refine take_at (i := 0) (k := 128) (v := .pointer (some ⟨B, 3, none⟩)) rfl rfl (by kernel_rfl) (by kernel_rfl) (by kernel_rfl) (fun _ _ _ h => h) (Or.inl ⟨by rfl, fun w _ => by go_simp⟩) hHeld ?_
              try simp only [Act.put, List.setIfInBounds_toArray, List.set_cons_zero, List.set_cons_succ]
              refine take_at (i := 2) (k := 130) (v := .pointer (some ⟨g, 0, none⟩)) rfl rfl (by kernel_rfl) (by kernel_rfl) (by kernel_rfl) (fun _ _ _ h => h) (Or.inl ⟨by rfl, fun w _ => by go_simp⟩) hHeld ?_
              try simp only [Act.put, List.setIfInBounds_toArray, List.set_cons_zero, List.set_cons_succ]
              refine take_at (i := 3) (k := 131) (v := .int .i64 D) rfl rfl (by kernel_rfl) (by kernel_rfl) (by kernel_rfl) (fun _ _ _ h => h) (Or.inl ⟨by rfl, fun w _ => by go_simp⟩) hHeld ?_
              try simp only [Act.put, List.setIfInBounds_toArray, List.set_cons_zero, List.set_cons_succ]
              refine take_at (i := 4) (k := 132) (v := .int .i64 (D + 1)) rfl rfl (by kernel_rfl) (by kernel_rfl) (by kernel_rfl) (fun _ _ _ h => h) (Or.inl ⟨by rfl, fun w _ => by go_simp⟩) hHeld ?_
              try simp only [Act.put, List.setIfInBounds_toArray, List.set_cons_zero, List.set_cons_succ]
              clear hHeld
              refine wpAnyH_ready (rs := [1, 5]) (by kernel_rfl) (by simp) ?_
              refine AllReadyH.cons rfl (fun K hK => ?_) (AllReadyH.cons rfl (fun K hK => ?_) AllReadyH.nil)
              · rw [if_pos (by rfl)]
                have qq : wr.drew.cell? ⟨B, 3, none⟩ = some v := QW.out
                go_simp
                clear qq
                refine hK.out _ _ trivial (fun hHeld => ?_)
                try simp only [Act.put, List.setIfInBounds_toArray, List.set_cons_zero, List.set_cons_succ]
                clear hK K
                clear hHeld
                refine wpAnyH_ready (rs := [5]) (by kernel_rfl) (by simp) ?_
                refine AllReadyH.cons rfl (fun K hK => ?_) AllReadyH.nil
                rw [if_pos (by rfl)]
                go_simp
                go_at_call 37
                refine HX.out.mono ?_
                rintro e w4 ⟨L, rfl, hok, hL, hr4, hc4⟩
                obtain ⟨pL, cL, rfl, _⟩ := hL.shape
                have HOK := Lib.hid hok
                have HL := Lib.hid hL
                have HR4 := Lib.hid hr4
                have HC4 := Lib.hid ((chg_drew g wr).trans hc4)
                have Q4 := Lib.hid ((HC4.out.cell3 HI.out.box hgB).1)
                have HO4 := Lib.hid (HI.out.own.keep HC4.out.size fun k hk => HC4.out.block k (HI.out.own.lt hk) (fun e => by have := HI.out.ge k hk; omega))
                clear hr4 hc4 hok hL
                refine hK.out _ _ trivial (fun hHeld => ?_)
                try simp only [Act.put, List.setIfInBounds_toArray, List.set_cons_zero, List.set_cons_succ]
                clear hK K
                clear hHeld
                refine wpAnyH_ready (rs := [6]) (by kernel_rfl) (by simp) ?_
                refine AllReadyH.cons rfl (fun K hK => ?_) AllReadyH.nil
                rw [if_pos (by rfl)]
                go_simp
                refine hK.out _ _ trivial (fun hHeld => ?_)
                try simp only [Act.put, List.setIfInBounds_toArray, List.set_cons_zero, List.set_cons_succ]
                clear hK K
                clear hHeld
                refine wpAnyH_ready (rs := [7]) (by kernel_rfl) (by simp) ?_
                refine AllReadyH.cons rfl (fun K hK => ?_) AllReadyH.nil
                rw [if_pos (by rfl)]
                refine wp_ownN (.tmp 129) (.tmp 134) 22 22 rfl 24 i1 _ 56 Try.underlying22 hj hy0 hy1 (by omega) hy2 rfl v _ xs rfl (HO4.out.alloc _) 1 [.int .i64 x.k, .int .i64 x.n, .string x.s, .slice pL x.q.len cL] rfl (src_val (heap_alloc_new _ _)) (by unfold maxLen; omega) (by omega) ?_
                intro v7 w7 hown7 hgrow7 hnew7
                have HO7 := Lib.hid hown7
                have HG7 := Lib.hid hgrow7
                have HN7 := Lib.hid hnew7
                have Q7 := Lib.hid (grown3 HG7.out (HC4.out.cell3 HI.out.box hgB).2.2 (fun e => by have := HI.out.ge B e; omega))
                obtain ⟨p7, m7, c7, e7⟩ : ∃ p m c, v7 = .slice p m c := by
                  obtain ⟨p, c, e⟩ := ownN_shp HO7.out
                  exact ⟨p, _, c, e⟩
                clear hown7 hgrow7 hnew7
                refine hK.out _ _ trivial (fun hHeld => ?_)
                try simp only [Act.put, List.setIfInBounds_toArray, List.set_cons_zero, List.set_cons_succ]
                clear hK K
                refine take_at (i := 8) (k := 136) (v := .pointer (some ⟨B, 3, none⟩)) rfl rfl (by kernel_rfl) (by kernel_rfl) (by kernel_rfl) (fun _ _ _ h => h) (Or.inl ⟨by rfl, fun w _ => by go_simp⟩) hHeld ?_
                try simp only [Act.put, List.setIfInBounds_toArray, List.set_cons_zero, List.set_cons_succ]
                clear hHeld
                refine wpAnyH_ready (rs := [9]) (by kernel_rfl) (by simp) ?_
                refine AllReadyH.cons rfl (fun K hK => ?_) AllReadyH.nil
                rw [if_pos (by rfl)]
                have qq := Q7.out.1
                have ff := Q7.out.2
                subst e7
                go_simp
                clear qq ff
                refine hK.out _ _ trivial (fun hHeld => ?_)
                try simp only [Act.put, List.setIfInBounds_toArray, List.set_cons_zero, List.set_cons_succ]
                clear hK K
                clear hHeld
                refine wpAnyH_done (by kernel_rfl) ?_ _
                have hnx := HI.out.next hlt (by omega) HDX.out hg0 hB0 hgB HOK.out HL.out HR4.out HC4.out HO7.out HG7.out (by simpa using HN7.out)
                have HNX := Lib.hid hnx
                clear hnx
                go_wp2_with fail
                go_roundw
                case rel => exact ⟨j + 1, by go_num, by omega, .inl ⟨_, _, _, _, Lib.hid ⟨HNX.out, HSX.out⟩⟩⟩
                case measure => simp [intOf]; omega
              · rw [if_pos (by rfl)]
                go_simp
                go_at_call 37
                refine HX.out.mono ?_
                rintro e w4 ⟨L, rfl, hok, hL, hr4, hc4⟩
                obtain ⟨pL, cL, rfl, _⟩ := hL.shape
                have HOK := Lib.hid hok
                have HL := Lib.hid hL
                have HR4 := Lib.hid hr4
                have HC4 := Lib.hid ((chg_drew g wr).trans hc4)
                have Q4 := Lib.hid ((HC4.out.cell3 HI.out.box hgB).1)
                have HO4 := Lib.hid (HI.out.own.keep HC4.out.size fun k hk => HC4.out.block k (HI.out.own.lt hk) (fun e => by have := HI.out.ge k hk; omega))
                clear hr4 hc4 hok hL
                refine hK.out _ _ trivial (fun hHeld => ?_)
                try simp only [Act.put, List.setIfInBounds_toArray, List.set_cons_zero, List.set_cons_succ]
                clear hK K
                clear hHeld
                refine wpAnyH_ready (rs := [1, 6]) (by kernel_rfl) (by simp) ?_
                refine AllReadyH.cons rfl (fun K hK => ?_) (AllReadyH.cons rfl (fun K hK => ?_) AllReadyH.nil)
                · rw [if_pos (by rfl)]
                  have qq : w4.cell? ⟨B, 3, none⟩ = some v := Q4.out
                  go_simp
                  clear qq
                  refine hK.out _ _ trivial (fun hHeld => ?_)
                  try simp only [Act.put, List.setIfInBounds_toArray, List.set_cons_zero, List.set_cons_succ]
                  clear hK K
                  clear hHeld
                  refine wpAnyH_ready (rs := [6]) (by kernel_rfl) (by simp) ?_
                  refine AllReadyH.cons rfl (fun K hK => ?_) AllReadyH.nil
                  rw [if_pos (by rfl)]
                  go_simp
                  refine hK.out _ _ trivial (fun hHeld => ?_)
                  try simp only [Act.put, List.setIfInBounds_toArray, List.set_cons_zero, List.set_cons_succ]
                  clear hK K
                  clear hHeld
                  refine wpAnyH_ready (rs := [7]) (by kernel_rfl) (by simp) ?_
                  refine AllReadyH.cons rfl (fun K hK => ?_) AllReadyH.nil
                  rw [if_pos (by rfl)]
                  refine wp_ownN (.tmp 129) (.tmp 134) 22 22 rfl 24 i1 _ 56 Try.underlying22 hj hy0 hy1 (by omega) hy2 rfl v _ xs rfl (HO4.out.alloc _) 1 [.int .i64 x.k, .int .i64 x.n, .string x.s, .slice pL x.q.len cL] rfl (src_val (heap_alloc_new _ _)) (by unfold maxLen; omega) (by omega) ?_
                  intro v7 w7 hown7 hgrow7 hnew7
                  have HO7 := Lib.hid hown7
                  have HG7 := Lib.hid hgrow7
                  have HN7 := Lib.hid hnew7
                  have Q7 := Lib.hid (grown3 HG7.out (HC4.out.cell3 HI.out.box hgB).2.2 (fun e => by have := HI.out.ge B e; omega))
                  obtain ⟨p7, m7, c7, e7⟩ : ∃ p m c, v7 = .slice p m c := by
                    obtain ⟨p, c, e⟩ := ownN_shp HO7.out
                    exact ⟨p, _, c, e⟩
                  clear hown7 hgrow7 hnew7
                  refine hK.out _ _ trivial (fun hHeld => ?_)
                  try simp only [Act.put, List.setIfInBounds_toArray, List.set_cons_zero, List.set_cons_succ]
                  clear hK K
                  refine take_at (i := 8) (k := 136) (v := .pointer (some ⟨B, 3, none⟩)) rfl rfl (by kernel_rfl) (by kernel_rfl) (by kernel_rfl) (fun _ _ _ h => h) (Or.inl ⟨by rfl, fun w _ => by go_simp⟩) hHeld ?_
                  try simp only [Act.put, List.setIfInBounds_toArray, List.set_cons_zero, List.set_cons_succ]
                  clear hHeld
                  refine wpAnyH_ready (rs := [9]) (by kernel_rfl) (by simp) ?_
                  refine AllReadyH.cons rfl (fun K hK => ?_) AllReadyH.nil
                  rw [if_pos (by rfl)]
                  have qq := Q7.out.1
                  have ff := Q7.out.2
                  subst e7
                  go_simp
                  clear qq ff
                  refine hK.out _ _ trivial (fun hHeld => ?_)
                  try simp only [Act.put, List.setIfInBounds_toArray, List.set_cons_zero, List.set_cons_succ]
                  clear hK K
                  clear hHeld
                  refine wpAnyH_done (by kernel_rfl) ?_ _
                  have hnx := HI.out.next hlt (by omega) HDX.out hg0 hB0 hgB HOK.out HL.out HR4.out HC4.out HO7.out HG7.out (by simpa using HN7.out)
                  have HNX := Lib.hid hnx
                  clear hnx
                  go_wp2_with fail
                  go_roundw
                  case rel => exact ⟨j + 1, by go_num, by omega, .inl ⟨_, _, _, _, Lib.hid ⟨HNX.out, HSX.out⟩⟩⟩
                  case measure => simp [intOf]; omega
                · rw [if_pos (by rfl)]
                  go_simp
                  refine hK.out _ _ trivial (fun hHeld => ?_)
                  try simp only [Act.put, List.setIfInBounds_toArray, List.set_cons_zero, List.set_cons_succ]
                  clear hK K
                  clear hHeld
                  refine wpAnyH_ready (rs := [1]) (by kernel_rfl) (by simp) ?_
                  refine AllReadyH.cons rfl (fun K hK => ?_) AllReadyH.nil
                  rw [if_pos (by rfl)]
                  have qq := alloc3 (o := .cells #[.int .i64 x.k, .int .i64 x.n, .string x.s, .slice pL x.q.len cL] 24) (HC4.out.cell3 HI.out.box hgB).2.2
                  go_simp
                  clear qq
                  refine hK.out _ _ trivial (fun hHeld => ?_)
                  try simp only [Act.put, List.setIfInBounds_toArray, List.set_cons_zero, List.set_cons_succ]
                  clear hK K
                  clear hHeld
                  refine wpAnyH_ready (rs := [7]) (by kernel_rfl) (by simp) ?_
                  refine AllReadyH.cons rfl (fun K hK => ?_) AllReadyH.nil
                  rw [if_pos (by rfl)]
                  refine wp_ownN (.tmp 129) (.tmp 134) 22 22 rfl 24 i1 _ 56 Try.underlying22 hj hy0 hy1 (by omega) hy2 rfl v _ xs rfl (HO4.out.alloc _) 1 [.int .i64 x.k, .int .i64 x.n, .string x.s, .slice pL x.q.len cL] rfl (src_val (heap_alloc_new _ _)) (by unfold maxLen; omega) (by omega) ?_
                  intro v7 w7 hown7 hgrow7 hnew7
                  have HO7 := Lib.hid hown7
                  have HG7 := Lib.hid hgrow7
                  have HN7 := Lib.hid hnew7
                  have Q7 := Lib.hid (grown3 HG7.out (HC4.out.cell3 HI.out.box hgB).2.2 (fun e => by have := HI.out.ge B e; omega))
                  obtain ⟨p7, m7, c7, e7⟩ : ∃ p m c, v7 = .slice p m c := by
                    obtain ⟨p, c, e⟩ := ownN_shp HO7.out
                    exact ⟨p, _, c, e⟩
                  clear hown7 hgrow7 hnew7
                  refine hK.out _ _ trivial (fun hHeld => ?_)
                  try simp only [Act.put, List.setIfInBounds_toArray, List.set_cons_zero, List.set_cons_succ]
                  clear hK K
                  refine take_at (i := 8) (k := 136) (v := .pointer (some ⟨B, 3, none⟩)) rfl rfl (by kernel_rfl) (by kernel_rfl) (by kernel_rfl) (fun _ _ _ h => h) (Or.inl ⟨by rfl, fun w _ => by go_simp⟩) hHeld ?_
                  try simp only [Act.put, List.setIfInBounds_toArray, List.set_cons_zero, List.set_cons_succ]
                  clear hHeld
                  refine wpAnyH_ready (rs := [9]) (by kernel_rfl) (by simp) ?_
                  refine AllReadyH.cons rfl (fun K hK => ?_) AllReadyH.nil
                  rw [if_pos (by rfl)]
                  have qq := Q7.out.1
                  have ff := Q7.out.2
                  subst e7
                  go_simp
                  clear qq ff
                  refine hK.out _ _ trivial (fun hHeld => ?_)
                  try simp only [Act.put, List.setIfInBounds_toArray, List.set_cons_zero, List.set_cons_succ]
                  clear hK K
                  clear hHeld
                  refine wpAnyH_done (by kernel_rfl) ?_ _
                  have hnx := HI.out.next hlt (by omega) HDX.out hg0 hB0 hgB HOK.out HL.out HR4.out HC4.out HO7.out HG7.out (by simpa using HN7.out)
                  have HNX := Lib.hid hnx
                  clear hnx
                  go_wp2_with fail
                  go_roundw
                  case rel => exact ⟨j + 1, by go_num, by omega, .inl ⟨_, _, _, _, Lib.hid ⟨HNX.out, HSX.out⟩⟩⟩
                  case measure => simp [intOf]; omega
          · obtain rfl : j = u := by omega
            have k3 : ¬ (j : Int) < (j : Int) := by omega
            obtain ⟨e1, e2⟩ := HI.out.done
            obtain ⟨p9, c9, rfl, _⟩ := e2.shape
            have HC9 := Lib.hid (HWH.out wr HI.out.chg)
            have hr9 := HR4.out wr HI.out.chg
            obtain ⟨z0, z1, z2, z3, f0⟩ := zero_cells hr9
            obtain ⟨y0, y1, y2, y3⟩ := list_cells HI.out.box
            have HR9 := Lib.hid hr9
            have HE1 := Lib.hid (show decv (d + 1) (l.drop a) = some ⟨3, 0, ByteArray.empty, pre, l'⟩ by rw [HDD.out, e1])
            have hw8 : w.heap.size < W8.heap.size := (Array.getElem?_eq_some_iff.1 (HR4.out W8 (Chg2.refl _ _ _))).1
            have HE2 := Lib.hid e2
            have HOK : Hid (Okv 3 0 ByteArray.empty) := Lib.hid ⟨by unfold W64; omega, by unfold W64; omega, by simp [maxLen]⟩
            clear hr9 e1 e2 HDD
            go_wp2_with fail
            have hc8 := HC9.out.four (k := w.heap.size) (Nat.le_refl _) (.int .i64 3) (.int .i64 0) (.string ByteArray.empty) (.slice p9 pre.len c9)
            have hsl := cut_mono (Z' := old w.heap.size) (four_size wr w.heap.size (.int .i64 3) (.int .i64 0) (.string ByteArray.empty) (.slice p9 pre.len c9)) (fun k _ hz => by
              simp only [old, decide_eq_false_iff_not] at hz ⊢
              exact ⟨by omega, four_other wr (show k ≠ w.heap.size by omega) _ _ _ _⟩) HE2.out
            exact bodyPost_ret (results_cell_row rfl _ _ w.heap.size 24 _ (0, 0) _ rfl (set_four HR9.out) Try.underlying24 rfl (by kernel_rfl)) rfl (RVal.some HE1.out rfl HOK.out hsl (HI.out.rs.four hgn _ _ _ _) rfl hc8)
        · obtain ⟨q9, m9, z9, hbx⟩ := hB.out.box
          obtain ⟨a9, hrs9⟩ := hB.out.rs
          obtain ⟨g0, g1, g2, _⟩ := hrs9.cells
          have HC9 := Lib.hid (HWH.out wr hB.out.chg)
          have hr9 := HR4.out wr hB.out.chg
          obtain ⟨z0, z1, z2, z3, f0⟩ := zero_cells hr9
          obtain ⟨y0, y1, y2, y3⟩ := list_cells hbx
          have HR9 := Lib.hid hr9
          have HE1 := Lib.hid (show decv (d + 1) (l.drop a) = none by rw [HDD.out, hB.out.eq])
          have HS9 := Lib.hid hrs9
          clear hr9 hbx hrs9 HDD g0 g1
          by_cases hlt : j < u
          · have k3 : (j : Int) < (u : Int) := by omega
            go_wp2_with fail
            exact bodyPost_ret (results_cell_row rfl _ _ w.heap.size 24 _ (0, 0) _ rfl (set_four HR9.out) Try.underlying24 rfl (by kernel_rfl)) rfl (RVal.none HE1.out rfl (HS9.out.four hgn _ _ _ _) (HC9.out.four (Nat.le_refl _) _ _ _ _))
          · have k3 : ¬ (j : Int) < (u : Int) := by omega
            go_wp2_with fail
            exact bodyPost_ret (results_cell_row rfl _ _ w.heap.size 24 _ (0, 0) _ rfl (set_four HR9.out) Try.underlying24 rfl (by kernel_rfl)) rfl (RVal.none HE1.out rfl (HS9.out.four hgn _ _ _ _) (HC9.out.four (Nat.le_refl _) _ _ _ _))
    · have k1 : (m : Int) < (u : Int) := by omega
      have k1' : m < u := by omega
      go_upto_region 16 with fail
      refine wp_region_later (by kernel_rfl) (by kernel_rfl) ?_
      repeat (go_big_quiet_step (fail))
      refine wpQuiet_nil ?_
      intro _ hw'
      obtain ⟨y, hy⟩ := hw'
      subst hy
      have HS3 := Lib.hid (HS2.out.below y.b)
      have hr3 := (y.b.block w.heap.size (Array.getElem?_eq_some_iff.1 HR2.out).1).trans HR2.out
      have HC3 := Lib.hid (HC2.out.trans ⟨y.b.os, y.b.tape, y.b.output, y.b.size, fun k hk _ => y.b.block k hk⟩)
      obtain ⟨z0, z1, z2, z3, f0⟩ := zero_cells hr3
      have HR3 := Lib.hid hr3
      obtain ⟨g0, g1, g2', gf'⟩ := HS3.out.cells
      have f2 := gf' 2
      clear hr3 g0 g1 gf' G0 G1 G2
      go_wp2_with fail
      exact bodyPost_ret (results_cell_row rfl _ _ w.heap.size 24 _ (0, 0) _ rfl (set_four (((chg_set' g 2 y.v (.bool true)).block w.heap.size (Array.getElem?_eq_some_iff.1 HR3.out).1 hgn).trans HR3.out)) Try.underlying24 rfl (by kernel_rfl)) rfl (RVal.none (by rw [HDD.out, HLO.out k1']) rfl ((HS3.out.set2 true).four hgn _ _ _ _) ((HC3.out.trans (chg_set' g 2 y.v _)).four (Nat.le_refl _) _ _ _ _))
set_option maxRecDepth 100000 in
set_option maxHeartbeats 1000000 in
theorem rval_deep (g b : Nat) (p : Option Addr) (N c a : Nat) (x : UInt8) (l : List UInt8) (w : World) (hs : RS w g p N c a false) (hb : Bts w g b p l) (hl : l.length = N) (hN : N ≤ 1099511627776) (hx : l[a]? = some x) (h1 : x.toNat = 3) :
    Calls Try.prog 37 #[.pointer (some ⟨g, 0, none⟩), .int .i64 16] w (RVal g p N c 0 (l.drop a) w) := by
  have hlt := hs.lt
  have ha : a < N := by have := (List.getElem?_eq_some_iff.1 hx).1; omega
  have hd : decv 0 (l.drop a) = none := by
    rw [drop_next hx]
    unfold decv
    rw [if_neg (by omega), if_neg (by omega), if_pos h1]
  have H1 := Lib.hid (fun (o' : Obj) => rnext_yes g b _ N c a false x l (w.alloc o') (hs.below (one_new w o')) (hb.chg (Chg.refl g (w.alloc o')).alloc) hl hx hN)
  have H2 := Lib.hid (fun (W : World) (h : RS W g p N c (a + 1) false) (hc : Chg g w W) => rnumber_any g b _ N c (a + 1) l W h (hb.chg hc) hl hN (by omega))
  have HDC := Lib.hid hd
  have HBT := Lib.hid hb
  have HLL := Lib.hid hl
  have hx1 : (x.toNat : Int) = 3 := by omega
  clear hs hb hd hx hl
  go_enter Try.func37, Try.ntmps37
  go_wp2_with fail
  refine (H1.out _).mono ?_
  rintro e w1 ⟨rfl, hs1, hc1⟩
  have hr := hc1.block w.heap.size (by simp) (by omega)
  rw [heap_alloc_new] at hr
  have HR1 := Lib.hid hr
  have HC1 := Lib.hid hc1.alloc
  have HS1 := Lib.hid hs1
  clear hr hc1 hs1
  go_wp2_with fail
  refine (H2.out _ HS1.out HC1.out).mono ?_
  rintro e w2 hn
  have hz1 := HC1.out.size
  have hzz : w.heap.size < w1.heap.size := (Array.getElem?_eq_some_iff.1 HR1.out).1
  unfold RNum at hn
  have hgn : w.heap.size ≠ g := by omega
  cases hdn : dnum (l.drop (a + 1)) with
  | none =>
    rw [hdn] at hn
    obtain ⟨rfl, ⟨a2, hs2⟩, hc2⟩ := hn
    have hr2 := (hc2.block w.heap.size hzz hgn).trans HR1.out
    have hD : decv 0 (l.drop a) = none := HDC.out
    have HDD := Lib.hid hD
    have HS2 := Lib.hid hs2
    have HC2 := Lib.hid (HC1.out.trans hc2)
    have HR2 := Lib.hid hr2
    obtain ⟨g0, g1, g2, gf⟩ := hs2.cells
    have G2 := Later.cell (w := w2) hs2.lt g2
    clear hD hdn hs2 hc2 hr2 HDC H2 g0 g1
    go_upto_region 16 with fail
    refine wp_region_later (by kernel_rfl) (by kernel_rfl) ?_
    repeat (go_big_quiet_step (fail))
    refine wpQuiet_nil ?_
    intro _ hw'
    obtain ⟨y, hy⟩ := hw'
    subst hy
    have HS3 := Lib.hid (HS2.out.below y.b)
    have hr3 := (y.b.block w.heap.size (Array.getElem?_eq_some_iff.1 HR2.out).1).trans HR2.out
    have HC3 := Lib.hid (HC2.out.trans ⟨y.b.os, y.b.tape, y.b.output, y.b.size, fun k hk _ => y.b.block k hk⟩)
    obtain ⟨z0, z1, z2, z3, f0⟩ := zero_cells hr3
    have HR3 := Lib.hid hr3
    obtain ⟨g0, g1, g2', gf'⟩ := HS3.out.cells
    have f2 := gf' 2
    clear hr3 g0 g1 gf gf' G2 g2
    go_wp2_with fail
    exact bodyPost_ret (results_cell_row rfl _ _ w.heap.size 24 _ (0, 0) _ rfl (set_four (((chg_set' g 2 y.v (.bool true)).block w.heap.size (Array.getElem?_eq_some_iff.1 HR3.out).1 hgn).trans HR3.out)) Try.underlying24 rfl (by kernel_rfl)) rfl (RVal.none HDD.out rfl ((HS3.out.set2 true).four hgn _ _ _ _) ((HC3.out.trans (chg_set' g 2 y.v _)).four (Nat.le_refl _) _ _ _ _))
  | some ur =>
    obtain ⟨u, r⟩ := ur
    rw [hdn] at hn
    obtain ⟨rfl, hs2, hc2'⟩ := hn
    have hu := (dnum_only hdn).2
    obtain ⟨hrd, hrl⟩ := suffix_drop (dnum_only hdn).1 HLL.out (by omega)
    have hr2 := (hc2'.block w.heap.size hzz hgn).trans HR1.out
    have hD : decv 0 (l.drop a) = none := HDC.out
    have HRD := Lib.hid hrd
    obtain ⟨m, hm⟩ : ∃ m, r.length = m := ⟨_, rfl⟩
    rw [hm] at hs2 hrl
    obtain ⟨a2, ha2⟩ : ∃ a2, N - m = a2 := ⟨_, rfl⟩
    rw [ha2] at hs2
    have hma : a2 + m = N := by omega
    have HDD := Lib.hid hD
    have HS2 := Lib.hid hs2
    have HC2 := Lib.hid (HC1.out.trans hc2')
    have HR2 := Lib.hid hr2
    obtain ⟨g0, g1, g2, gf⟩ := hs2.cells
    have G0 := Later.cell (w := w2) hs2.lt g0
    have G1 := Later.cell (w := w2) hs2.lt g1
    have G2 := Later.cell (w := w2) hs2.lt g2
    have hsub : ((N : Int) - (a2 : Int)) = (m : Int) := by omega
    have hw1 : IntKind.i64.wrap ((N : Int) - (a2 : Int)) = (m : Int) := by rw [hsub]; exact IntWalk.i64_in _ (by omega)
    clear hD hdn hs2 hc2' hr2 HDC H2 H1 g0 g1 g2 gf hrd
    by_cases hum : u ≤ m
    · have k1 : ¬ (m : Int) < (u : Int) := by omega
      have k1' : ¬ m < u := by omega
      go_upto_region 16 with fail
      refine wp_region_later (by kernel_rfl) (by kernel_rfl) ?_
      repeat (go_big_quiet_step (fail))
      refine wpQuiet_nil ?_
      intro _ hw'
      obtain ⟨y, hy⟩ := hw'
      subst hy
      have HS3 := Lib.hid (HS2.out.below y.b)
      have hr3 := (y.b.block w.heap.size (Array.getElem?_eq_some_iff.1 HR2.out).1).trans HR2.out
      have HC3 := Lib.hid (HC2.out.trans ⟨y.b.os, y.b.tape, y.b.output, y.b.size, fun k hk _ => y.b.block k hk⟩)
      obtain ⟨z0, z1, z2, z3, f0⟩ := zero_cells hr3
      have HR3 := Lib.hid hr3
      obtain ⟨g0, g1, g2', gf'⟩ := HS3.out.cells
      have f2 := gf' 2
      clear hr3 g0 g1 gf' G0 G1 G2
      go_wp2_with fail
      exact bodyPost_ret (results_cell_row rfl _ _ w.heap.size 24 _ (0, 0) _ rfl (set_four (((chg_set' g 2 y.v (.bool true)).block w.heap.size (Array.getElem?_eq_some_iff.1 HR3.out).1 hgn).trans HR3.out)) Try.underlying24 rfl (by kernel_rfl)) rfl (RVal.none HDD.out rfl ((HS3.out.set2 true).four hgn _ _ _ _) ((HC3.out.trans (chg_set' g 2 y.v _)).four (Nat.le_refl _) _ _ _ _))
    · have k1 : (m : Int) < (u : Int) := by omega
      have k1' : m < u := by omega
      go_upto_region 16 with fail
      refine wp_region_later (by kernel_rfl) (by kernel_rfl) ?_
      repeat (go_big_quiet_step (fail))
      refine wpQuiet_nil ?_
      intro _ hw'
      obtain ⟨y, hy⟩ := hw'
      subst hy
      have HS3 := Lib.hid (HS2.out.below y.b)
      have hr3 := (y.b.block w.heap.size (Array.getElem?_eq_some_iff.1 HR2.out).1).trans HR2.out
      have HC3 := Lib.hid (HC2.out.trans ⟨y.b.os, y.b.tape, y.b.output, y.b.size, fun k hk _ => y.b.block k hk⟩)
      obtain ⟨z0, z1, z2, z3, f0⟩ := zero_cells hr3
      have HR3 := Lib.hid hr3
      obtain ⟨g0, g1, g2', gf'⟩ := HS3.out.cells
      have f2 := gf' 2
      clear hr3 g0 g1 gf' G0 G1 G2
      go_wp2_with fail
      exact bodyPost_ret (results_cell_row rfl _ _ w.heap.size 24 _ (0, 0) _ rfl (set_four (((chg_set' g 2 y.v (.bool true)).block w.heap.size (Array.getElem?_eq_some_iff.1 HR3.out).1 hgn).trans HR3.out)) Try.underlying24 rfl (by kernel_rfl)) rfl (RVal.none HDD.out rfl ((HS3.out.set2 true).four hgn _ _ _ _) ((HC3.out.trans (chg_set' g 2 y.v _)).four (Nat.le_refl _) _ _ _ _))
theorem rval_all : ∀ d, d ≤ 16 → RvOK d := by
  intro d
  induction d with
  | zero => ?_
  | succ d ih => ?_
  all_goals
    intro h16 g b p N c a l w D hs hb hl hN hc hc2 ha hD
    have hlt := hs.lt
    by_cases hx : a < N
    · obtain ⟨x, hxx⟩ : ∃ x, l[a]? = some x := ⟨_, List.getElem?_eq_getElem (by omega)⟩
      by_cases h1 : x.toNat = 1
      · exact rval_int g b p N c a _ x l w D hs hb hl hN hxx h1
      by_cases h2 : x.toNat = 2
      · exact rval_text g b p N c a _ x l w D hs hb hl hN hc hc2 hxx h2
      by_cases h3 : x.toNat = 3
      · first
          | (subst hD; exact rval_deep g b p N c a x l w hs hb hl hN hxx h3)
          | exact rval_list d h16 (ih (by omega)) g b p N c a x l w D hs hb hl hN hc hc2 hxx h3 hD
      · refine rval_else g p N c a (a + 1) _ false x _ w D hlt h1 h2 h3 ?_ (fun o => rnext_yes g b p N c a false x l _ (hs.below (one_new w o)) (hb.chg (Chg.refl g (w.alloc o)).alloc) hl hxx hN)
        rw [drop_next hxx]
        unfold decv
        rw [if_neg h1, if_neg h2, if_neg h3]
    · refine rval_else g p N c a a _ true 0 _ w D hlt (by decide) (by decide) (by decide) ?_ (fun o => rnext_no g p N c a false _ (hs.below (one_new w o)) (by omega))
      rw [List.drop_eq_nil_of_le (by omega)]
      unfold decv
      rfl
end Go.Proofs.Ytaahmfmelmjahaa
namespace Go.Proofs.Ytaahmfmelmjahaa
open Go Go.RowKit
theorem Chg.belowB {g m : Nat} {w w1 w2 : World} (h : Below m w w1) (hm : m ≤ w1.heap.size) (hg : m ≤ g) (k : Chg g w1 w2) : Below m w w2 :=
  ⟨k.os.trans h.os, k.tape.trans h.tape, k.output.trans h.output, Nat.le_trans h.size k.size, fun j hj => (k.block j (by omega) (by omega)).trans (h.block j hj)⟩
theorem sz24 : (Try.prog.info? 24).map (·.size) = some 4 := by kernel_rfl
theorem results_val {fn : Func} {p q : Tmp} (h : fn.results = #[.cell p 24, .tmp q]) (tmps : Array Value) (w : World) (g : Nat) (c0 c1 c2 c3 e : Value) (hp : tmps.getD p undef = .pointer (some ⟨g, 0, none⟩)) (he : tmps.getD q undef = e) (hg : w.heap[g]? = some (.cells #[c0, c1, c2, c3] 24 (0, 0))) :
    (results fn tmps).run Try.prog w = .ok (.tuple #[.agg #[c0, c1, c2, c3], e]) w := by
  have hp' : tmps[p]?.getD undef = .pointer (some ⟨g, 0, none⟩) := by simpa using hp
  have he' : tmps[q]?.getD undef = e := by simpa using he
  simp [results, h, hp', he', asAddr, run_loadVar_row w g 24 24 #[c0, c1, c2, c3] (0, 0) _ hg Try.underlying24 rfl (by rw [sz24]; rfl)]
/-- the blocks of a call of Decode: the result's, the reader's -/
theorem begin_two (w : World) (b N cap : Nat) (p : Option Addr) (l : List UInt8) (hb : BArg w b p l) :
    ∃ W1, ((w.alloc (.cells #[.int .i64 0, .int .i64 0, .string ByteArray.empty, .slice none 0 0] 24)).alloc (.cells #[.slice p N cap, .int .i64 0, .bool false] 60)) = W1 ∧ W1.heap.size = w.heap.size + 2 ∧ Below w.heap.size w W1 ∧ RS W1 (w.heap.size + 1) p N cap 0 false ∧ Bts W1 (w.heap.size + 1) b p l ∧
      W1.heap[w.heap.size]? = some (.cells #[.int .i64 0, .int .i64 0, .string ByteArray.empty, .slice none 0 0] 24 (0, 0)) := by
  have h2 := heap_alloc_new (w.alloc (.cells #[.int .i64 0, .int .i64 0, .string ByteArray.empty, .slice none 0 0] 24)) (.cells #[.slice p N cap, .int .i64 0, .bool false] 60)
  rw [World.size_alloc] at h2
  have hbel : Below w.heap.size w ((w.alloc (.cells #[.int .i64 0, .int .i64 0, .string ByteArray.empty, .slice none 0 0] 24)).alloc (.cells #[.slice p N cap, .int .i64 0, .bool false] 60)) := ((Below.refl _ _).alloc (Nat.le_refl _) _).alloc (by simp) _
  refine ⟨_, rfl, by simp, hbel, h2, ?_, ?_⟩
  · rcases hb with hb | ⟨o, e, c2, c3⟩
    · exact .inl hb
    · exact .inr ⟨o, e, by omega, Nat.lt_of_lt_of_le c2 hbel.size, fun j c hj => (hbel.cell (p := ⟨b, o + j, none⟩) c2).trans (c3 j c hj)⟩
  · exact (heap_alloc_old _ _ (by simp)).trans (heap_alloc_new w _)
theorem cut_sl_below {B : Nat} {w w' : World} {L : Value} {q : F} (h : Sl (Cut (old B) w) L q) (hb : Below w.heap.size w w') : Sl (Cut (old B) w') L q :=
  cut_mono hb.size (fun k hk hz => ⟨hz, hb.block k hk⟩) h
theorem row_cell0 {W : World} {k : Nat} {c0 c1 c2 c3 : Value} (h : W.heap[k]? = some (.cells #[c0, c1, c2, c3] 24 (0, 0))) : W.cell? ⟨k, 0, none⟩ = some c0 := by simp [World.cell?, h]
theorem row_cell1 {W : World} {k : Nat} {c0 c1 c2 c3 : Value} (h : W.heap[k]? = some (.cells #[c0, c1, c2, c3] 24 (0, 0))) : W.cell? ⟨k, 1, none⟩ = some c1 := by simp [World.cell?, h]
theorem row_cell2 {W : World} {k : Nat} {c0 c1 c2 c3 : Value} (h : W.heap[k]? = some (.cells #[c0, c1, c2, c3] 24 (0, 0))) : W.cell? ⟨k, 2, none⟩ = some c2 := by simp [World.cell?, h]
theorem row_cell3 {W : World} {k : Nat} {c0 c1 c2 c3 : Value} (h : W.heap[k]? = some (.cells #[c0, c1, c2, c3] 24 (0, 0))) : W.cell? ⟨k, 3, none⟩ = some c3 := by simp [World.cell?, h]
theorem dec_yes {l : List UInt8} {x : Got} {w W : World} {L : Value} {B : Nat} (hd : dec l = some x) (ho : Okv x.k x.n x.s) (hL : Sl (Cut (old B) W) L x.q) (hb : Below w.heap.size w W) (hB : w.heap.size < B) :
    DecA l w (.returned (.tuple #[val x.k x.n x.s L, .int .i64 0])) ((((W.setCell ⟨w.heap.size, 0, none⟩ (.int .i64 x.k)).setCell ⟨w.heap.size, 1, none⟩ (.int .i64 x.n)).setCell ⟨w.heap.size, 2, none⟩ (.string x.s)).setCell ⟨w.heap.size, 3, none⟩ L) := by
  unfold DecA
  rw [hd]
  refine ⟨L, rfl, ho, ?_, below_set (below_set (below_set (below_set hb (Nat.le_refl _) _) (Nat.le_refl _) _) (Nat.le_refl _) _) (Nat.le_refl _) _⟩
  refine cut_sl (Z := old B) (cut_mono (four_size W w.heap.size _ _ _ _) (fun k _ hz => ⟨hz, four_other W ?_ _ _ _ _⟩) hL)
  simp only [old, decide_eq_false_iff_not] at hz
  omega
set_option maxRecDepth 100000 in
set_option maxHeartbeats 4000000 in
theorem rdec_all (b N cap : Nat) (p : Option Addr) (l : List UInt8) (w : World) (hN : l.length = N) (hc : N ≤ cap) (hm : cap ≤ 9223372036854775807) (hb : BArg w b p l) (hl : l.length ≤ 2000) :
    Calls Try.prog 19 #[.slice p N cap] w (DecA l w) := by
  obtain ⟨W1, hW1, hz1, hB1, hS1, hBT, hR1⟩ := begin_two w b N cap p l hb
  have hcall := rval_all 16 (Nat.le_refl _) (w.heap.size + 1) b p N cap 0 l W1 0 hS1 hBT hN (by omega) hc hm (Nat.zero_le _) (by omega)
  rw [List.drop_zero] at hcall
  have HC := Lib.hid hcall
  have HW1 := Lib.hid hW1
  have HB1 := Lib.hid hB1
  have HR1 := Lib.hid hR1
  have HB := Lib.hid hb
  have HN := Lib.hid hN
  have hgen : (⟨#[]⟩ : ByteArray) = ByteArray.empty := rfl
  clear hcall hW1 hB1 hR1 hS1 hBT hb
  go_enter Try.func19, Try.ntmps19
  go_wp2_with fail
  rw [HW1.out]
  unfold RVal at HC
  cases hd : decv 16 l with
  | none =>
    simp only [hd] at HC
    have HDN := Lib.hid (show dec l = none by unfold dec; rw [hd])
    clear hd
    refine HC.out.mono ?_
    rintro e w2 ⟨k, n, s, q, m, z, rfl, ⟨a, hs2⟩, hc2⟩
    have HB2 := Lib.hid (Chg.belowB HB1.out (by omega) (Nat.le_succ _) hc2)
    have HR2 := Lib.hid ((hc2.block w.heap.size (by omega) (by omega)).trans HR1.out)
    have HS2 := Lib.hid hs2
    clear hs2 hc2
    go_upto_region 3 with fail
    have hb3 := one_new w2 (.cells #[.int .i64 k, .int .i64 n, .string s, .slice q m z] 24)
    have HS3 := Lib.hid (HS2.out.below hb3)
    have HB3 := Lib.hid (HB2.out.trans (hb3.mono HB2.out.size))
    have HR3 := Lib.hid ((hb3.block w.heap.size (Array.getElem?_eq_some_iff.1 HR2.out).1).trans HR2.out)
    clear hb3 HS2 HB2 HR2
    generalize w2.alloc (.cells #[.int .i64 k, .int .i64 n, .string s, .slice q m z] 24) = w3 at *
    obtain ⟨g0, g1, g2, _⟩ := HS3.out.cells
    have G2 := Later.cell (w := w3) HS3.out.lt g2
    clear g0 g1 g2
    refine wp_region_later (by kernel_rfl) (by kernel_rfl) ?_
    repeat (go_big_quiet_step (fail))
    refine wpQuiet_nil ?_
    intro _ hw'
    obtain ⟨y, hy⟩ := hw'
    subst hy
    have hr4 := (y.b.block w.heap.size (Array.getElem?_eq_some_iff.1 HR3.out).1).trans HR3.out
    have HB4 := Lib.hid (HB3.out.trans (y.b.mono HB3.out.size))
    obtain ⟨z0, z1, z2, z3, f0⟩ := zero_cells hr4
    have HR4 := Lib.hid hr4
    clear hr4 G2
    go_wp2_with fail
    refine bodyPost_ret (v := .tuple #[val 0 0 ⟨#[]⟩ (.slice none 0 0), .int .i64 10]) ?_ rfl ?_
    · exact results_val rfl _ _ w.heap.size _ _ _ _ _ rfl rfl (set_four HR4.out)
    · unfold DecA
      rw [HDN.out]
      exact ⟨rfl, below_set (below_set (below_set (below_set HB4.out (Nat.le_refl _) _) (Nat.le_refl _) _) (Nat.le_refl _) _) (Nat.le_refl _) _⟩
  | some x =>
    simp only [hd] at HC
    have hdx : dec l = if x.r.length = 0 then some x else none := by unfold dec; rw [hd]
    have hxr : x.r.length ≤ N := by
      have := congrArg List.length (decv_only 16 l x (by omega) hd).enc
      rw [List.length_append] at this
      omega
    have HDX := Lib.hid hdx
    clear hd hdx
    refine HC.out.mono ?_
    rintro e w2 ⟨L, rfl, hok, hL, hs2, hc2⟩
    obtain ⟨pL, cL, rfl, _⟩ := hL.shape
    have HB2 := Lib.hid (Chg.belowB HB1.out (by omega) (Nat.le_succ _) hc2)
    have HR2 := Lib.hid ((hc2.block w.heap.size (by omega) (by omega)).trans HR1.out)
    have HS2 := Lib.hid hs2
    have HOK := Lib.hid hok
    have HL := Lib.hid hL
    clear hs2 hc2 hok hL
    go_upto_region 3 with fail
    have hb3 := one_new w2 (.cells #[.int .i64 x.k, .int .i64 x.n, .string x.s, .slice pL x.q.len cL] 24)
    have hv3 : (w2.alloc (.cells #[.int .i64 x.k, .int .i64 x.n, .string x.s, .slice pL x.q.len cL] 24)).heap[w2.heap.size]? = some (.cells #[.int .i64 x.k, .int .i64 x.n, .string x.s, .slice pL x.q.len cL] 24 (0, 0)) := heap_alloc_new _ _
    have HV3 := Lib.hid hv3
    have HS3 := Lib.hid (HS2.out.below hb3)
    have HB3 := Lib.hid (HB2.out.trans (hb3.mono HB2.out.size))
    have HR3 := Lib.hid ((hb3.block w.heap.size (Array.getElem?_eq_some_iff.1 HR2.out).1).trans HR2.out)
    have HL3 := Lib.hid (cut_sl_below HL.out hb3)
    have hg5 := HB2.out.size
    clear hb3 HS2 HB2 HR2 hv3 HL
    generalize w2.alloc (.cells #[.int .i64 x.k, .int .i64 x.n, .string x.s, .slice pL x.q.len cL] 24) = w3 at *
    generalize w2.heap.size = g5 at *
    obtain ⟨g0, g1, g2, _⟩ := HS3.out.cells
    by_cases hr0 : x.r.length = 0
    · rw [if_pos hr0] at HDX
      rw [hr0, Nat.sub_zero] at g1
      obtain ⟨hchk, henc, hdep, hsz⟩ := dec_some hl HDX.out
      have hwf := chk_wf hchk
      have henv : encv x.k x.n x.s x.q = l := by
        unfold encb at henc
        rwa [if_pos hchk] at henc
      obtain ⟨SS, hSS⟩ : ∃ SS, (⟨l.toArray⟩ : ByteArray) = SS := ⟨_, rfl⟩
      have HCH : Hid (∀ U, Below w3.heap.size w3 U → Calls Try.prog 17 #[val x.k x.n x.s (.slice pL x.q.len cL)] U (Ret (.int .i64 0) U)) := Lib.hid fun U hU => by
        have := rchk_any x.k x.n x.s x.q _ U HOK.out (cut_sl (cut_sl_below HL3.out hU)) hdep
        rwa [hchk] at this
      have HEN : Hid (∀ U, Below w3.heap.size w3 U → Calls Try.prog 28 #[val x.k x.n x.s (.slice pL x.q.len cL)] U (RetO l U)) := Lib.hid fun U hU => by
        have := re_any x.k x.n x.s x.q _ U HOK.out (cut_sl (cut_sl_below HL3.out hU)) hwf hsz
        rwa [henv] at this
      have hSB : ∀ U, Below w3.heap.size w3 U → (U.cell? ⟨w.heap.size + 1, 2, none⟩ = some (.bool false) ∧ U.cell? ⟨w.heap.size + 1, 1, none⟩ = some (.int .i64 (N : Int)) ∧ U.heap[g5]? = some (.cells #[.int .i64 x.k, .int .i64 x.n, .string x.s, .slice pL x.q.len cL] 24 (0, 0)) ∧ BArg U b p l) := fun U hU =>
        ⟨(hU.cell (p := ⟨w.heap.size + 1, 2, none⟩) HS3.out.lt).trans g2, (hU.cell (p := ⟨w.heap.size + 1, 1, none⟩) HS3.out.lt).trans g1, (hU.block g5 (Array.getElem?_eq_some_iff.1 HV3.out).1).trans HV3.out, HB.out.below (HB3.out.trans (hU.mono HB3.out.size))⟩
      have HSB := Lib.hid hSB
      have B0 := Lib.hid (drew_below w3)
      have h512 : w.heap.size < W1.heap.size := by omega
      clear hchk henc hwf henv hdep hsz g0 g1 g2 hgen
      refine wp_region_held_drew (S := fun U => U.cell? ⟨w.heap.size + 1, 2, none⟩ = some (.bool false) ∧ U.cell? ⟨w.heap.size + 1, 1, none⟩ = some (.int .i64 (N : Int)) ∧ U.heap[g5]? = some (.cells #[.int .i64 x.k, .int .i64 x.n, .string x.s, .slice pL x.q.len cL] 24 (0, 0)) ∧ BArg U b p l) (by kernel_rfl) (hSB _ B0.out) (fun hHeld => ?_)
      clear hSB
      have hSB := fun U (hU : Below w3.heap.size w3 U) => HSB.out U hU
      refine take_at (i := 0) (k := 11) (v := .pointer (some ⟨w.heap.size + 1, 0, none⟩)) rfl rfl (by kernel_rfl) (by kernel_rfl) (by kernel_rfl) (fun _ _ _ h => h) (Or.inl ⟨by rfl, fun w _ => by go_simp⟩) hHeld ?_
      try simp only [Act.put, List.setIfInBounds_toArray, List.set_cons_zero, List.set_cons_succ]
      refine take_at (i := 1) (k := 12) (v := .pointer (some ⟨w.heap.size + 1, 0, none⟩)) rfl rfl (by kernel_rfl) (by kernel_rfl) (by kernel_rfl) (fun _ _ _ h => h) (Or.inl ⟨by rfl, fun w _ => by go_simp⟩) hHeld ?_
      try simp only [Act.put, List.setIfInBounds_toArray, List.set_cons_zero, List.set_cons_succ]
      refine take_at (i := 2) (k := 13) (v := .pointer (some ⟨w.heap.size + 1, 2, none⟩)) rfl rfl (by kernel_rfl) (by kernel_rfl) (by kernel_rfl) (fun _ _ _ h => h) (Or.inl ⟨by rfl, fun w _ => by go_simp⟩) hHeld ?_
      try simp only [Act.put, List.setIfInBounds_toArray, List.set_cons_zero, List.set_cons_succ]
      refine take_at (i := 3) (k := 14) (v := .bool false) rfl rfl (by kernel_rfl) (by kernel_rfl) (by kernel_rfl) (fun _ _ _ h => h) (Or.inl ⟨by rfl, fun w' h => by have a0 := h.1; go_simp⟩) hHeld ?_
      try simp only [Act.put, List.setIfInBounds_toArray, List.set_cons_zero, List.set_cons_succ]
      refine take_at (i := 4) (k := 15) (v := .bool false) rfl rfl (by kernel_rfl) (by kernel_rfl) (by kernel_rfl) (fun _ _ _ h => h) (Or.inl ⟨by rfl, fun w _ => by go_simp⟩) hHeld ?_
      try simp only [Act.put, List.setIfInBounds_toArray, List.set_cons_zero, List.set_cons_succ]
      refine take_at (i := 5) (k := 16) (v := .pointer (some ⟨w.heap.size + 1, 0, none⟩)) rfl rfl (by kernel_rfl) (by kernel_rfl) (by kernel_rfl) (fun _ _ _ h => h) (Or.inl ⟨by rfl, fun w _ => by go_simp⟩) hHeld ?_
      try simp only [Act.put, List.setIfInBounds_toArray, List.set_cons_zero, List.set_cons_succ]
      refine take_at (i := 6) (k := 17) (v := .pointer (some ⟨w.heap.size + 1, 0, none⟩)) rfl rfl (by kernel_rfl) (by kernel_rfl) (by kernel_rfl) (fun _ _ _ h => h) (Or.inl ⟨by rfl, fun w _ => by go_simp⟩) hHeld ?_
      try simp only [Act.put, List.setIfInBounds_toArray, List.set_cons_zero, List.set_cons_succ]
      refine take_at (i := 7) (k := 18) (v := .pointer (some ⟨w.heap.size + 1, 1, none⟩)) rfl rfl (by kernel_rfl) (by kernel_rfl) (by kernel_rfl) (fun _ _ _ h => h) (Or.inl ⟨by rfl, fun w _ => by go_simp⟩) hHeld ?_
      try simp only [Act.put, List.setIfInBounds_toArray, List.set_cons_zero, List.set_cons_succ]
      refine take_at (i := 8) (k := 19) (v := .int .i64 (N : Int)) rfl rfl (by kernel_rfl) (by kernel_rfl) (by kernel_rfl) (fun _ _ _ h => h) (Or.inl ⟨by rfl, fun w' h => by have a0 := h.2.1; go_simp⟩) hHeld ?_
      try simp only [Act.put, List.setIfInBounds_toArray, List.set_cons_zero, List.set_cons_succ]
      refine take_at (i := 9) (k := 20) (v := .slice p N cap) rfl rfl (by kernel_rfl) (by kernel_rfl) (by kernel_rfl) (fun _ _ _ h => h) (Or.inl ⟨by rfl, fun w _ => by go_simp⟩) hHeld ?_
      try simp only [Act.put, List.setIfInBounds_toArray, List.set_cons_zero, List.set_cons_succ]
      refine take_at (i := 10) (k := 21) (v := .int .i64 (N : Int)) rfl rfl (by kernel_rfl) (by kernel_rfl) (by kernel_rfl) (fun _ _ _ h => h) (Or.inl ⟨by rfl, fun w _ => by go_simp⟩) hHeld ?_
      try simp only [Act.put, List.setIfInBounds_toArray, List.set_cons_zero, List.set_cons_succ]
      refine take_at (i := 11) (k := 22) (v := .bool false) rfl rfl (by kernel_rfl) (by kernel_rfl) (by kernel_rfl) (fun _ _ _ h => h) (Or.inl ⟨by rfl, fun w _ => by go_simp⟩) hHeld ?_
      try simp only [Act.put, List.setIfInBounds_toArray, List.set_cons_zero, List.set_cons_succ]
      refine take_at (i := 12) (k := 23) (v := .bool false) rfl rfl (by kernel_rfl) (by kernel_rfl) (by kernel_rfl) (fun _ _ _ h => h) (Or.inl ⟨by rfl, fun w _ => by go_simp⟩) hHeld ?_
      try simp only [Act.put, List.setIfInBounds_toArray, List.set_cons_zero, List.set_cons_succ]
      refine take_at (i := 13) (k := 24) (v := .bool false) rfl rfl (by kernel_rfl) (by kernel_rfl) (by kernel_rfl) (fun _ _ _ h => h) (Or.inl ⟨by rfl, fun w _ => by go_simp⟩) hHeld ?_
      try simp only [Act.put, List.setIfInBounds_toArray, List.set_cons_zero, List.set_cons_succ]
      refine take_at (i := 14) (k := 25) (v := val x.k x.n x.s (.slice pL x.q.len cL)) rfl rfl (by kernel_rfl) (by kernel_rfl) (by kernel_rfl) (fun _ _ _ h => h) (Or.inl ⟨by rfl, fun w' h => by have a0 := row_cell0 h.2.2.1; have a1 := row_cell1 h.2.2.1; have a2 := row_cell2 h.2.2.1; have a3 := row_cell3 h.2.2.1; go_simp⟩) hHeld ?_
      try simp only [Act.put, List.setIfInBounds_toArray, List.set_cons_zero, List.set_cons_succ]
      clear hHeld
      refine wpAnyH_ready (rs := [15]) (by kernel_rfl) (by simp) ?_
      refine AllReadyH.cons rfl (fun K hK => ?_) AllReadyH.nil
      rw [if_pos (by rfl)]
      go_simp
      go_at_call 17
      refine (HCH.out _ B0.out).mono ?_
      rintro e U1 ⟨rfl, hbe1⟩
      have B1 := Lib.hid (B0.out.trans (hbe1.mono B0.out.size))
      clear hbe1
      refine hK.out _ _ (hSB _ B1.out) (fun hHeld => ?_)
      try simp only [Act.put, List.setIfInBounds_toArray, List.set_cons_zero, List.set_cons_succ]
      clear hK K
      refine take_at (i := 16) (k := 27) (v := .bool false) rfl rfl (by kernel_rfl) (by kernel_rfl) (by kernel_rfl) (fun _ _ _ h => h) (Or.inl ⟨by rfl, fun w _ => by go_simp⟩) hHeld ?_
      try simp only [Act.put, List.setIfInBounds_toArray, List.set_cons_zero, List.set_cons_succ]
      refine take_at (i := 17) (k := 28) (v := .bool false) rfl rfl (by kernel_rfl) (by kernel_rfl) (by kernel_rfl) (fun _ _ _ h => h) (Or.inl ⟨by rfl, fun w _ => by go_simp⟩) hHeld ?_
      try simp only [Act.put, List.setIfInBounds_toArray, List.set_cons_zero, List.set_cons_succ]
      refine take_at (i := 18) (k := 29) (v := .bool false) rfl rfl (by kernel_rfl) (by kernel_rfl) (by kernel_rfl) (fun _ _ _ h => h) (Or.inl ⟨by rfl, fun w _ => by go_simp⟩) hHeld ?_
      try simp only [Act.put, List.setIfInBounds_toArray, List.set_cons_zero, List.set_cons_succ]
      refine take_at (i := 19) (k := 30) (v := val x.k x.n x.s (.slice pL x.q.len cL)) rfl rfl (by kernel_rfl) (by kernel_rfl) (by kernel_rfl) (fun _ _ _ h => h) (Or.inl ⟨by rfl, fun w' h => by have a0 := row_cell0 h.2.2.1; have a1 := row_cell1 h.2.2.1; have a2 := row_cell2 h.2.2.1; have a3 := row_cell3 h.2.2.1; go_simp⟩) hHeld ?_
      try simp only [Act.put, List.setIfInBounds_toArray, List.set_cons_zero, List.set_cons_succ]
      refine take_at (i := 22) (k := 33) (v := .slice p N cap) rfl rfl (by kernel_rfl) (by kernel_rfl) (by kernel_rfl) (fun _ _ _ h => h) (Or.inl ⟨by rfl, fun w _ => by go_simp⟩) hHeld ?_
      try simp only [Act.put, List.setIfInBounds_toArray, List.set_cons_zero, List.set_cons_succ]
      refine take_at (i := 23) (k := 34) (v := .string SS) rfl rfl (by kernel_rfl) (by kernel_rfl) (by kernel_rfl) (fun _ _ _ h => h) (Or.inl ⟨by rfl, fun w' h => by have a0 := barg_string (cap := cap) h.2.2.2 hN; rw [hSS] at a0; go_simp⟩) hHeld ?_
      try simp only [Act.put, List.setIfInBounds_toArray, List.set_cons_zero, List.set_cons_succ]
      clear hHeld
      refine wpAnyH_ready (rs := [20]) (by kernel_rfl) (by simp) ?_
      refine AllReadyH.cons rfl (fun K hK => ?_) AllReadyH.nil
      rw [if_pos (by rfl)]
      go_simp
      go_at_call 28
      refine (HEN.out _ B1.out).mono ?_
      rintro e U2 ⟨v2, rfl, hown, hnew, hbe2⟩
      obtain ⟨b2, p2, c2, rfl, hc21, hc22, hba2⟩ := own_barg hown (by omega)
      have hcv2 := barg_string (cap := c2) hba2 hN
      rw [hSS] at hcv2
      rw [hN] at hc21
      have HCV := Lib.hid hcv2
      have B2 := Lib.hid (B1.out.trans (hbe2.mono B1.out.size))
      rw [hN]
      clear hbe2 hown hnew hba2 hcv2
      refine hK.out _ _ (hSB _ B2.out) (fun hHeld => ?_)
      try simp only [Act.put, List.setIfInBounds_toArray, List.set_cons_zero, List.set_cons_succ]
      clear hK K
      clear hHeld
      refine wpAnyH_ready (rs := [21]) (by kernel_rfl) (by simp) ?_
      refine AllReadyH.cons rfl (fun K hK => ?_) AllReadyH.nil
      rw [if_pos (by rfl)]
      have hcv2 := HCV.out
      go_simp
      clear hcv2
      refine hK.out _ _ (hSB _ B2.out) (fun hHeld => ?_)
      try simp only [Act.put, List.setIfInBounds_toArray, List.set_cons_zero, List.set_cons_succ]
      clear hK K
      refine take_at (i := 24) (k := 35) (v := .bool false) rfl rfl (by kernel_rfl) (by kernel_rfl) (by kernel_rfl) (fun _ _ _ h => h) (Or.inl ⟨by rfl, fun w _ => by go_simp⟩) hHeld ?_
      try simp only [Act.put, List.setIfInBounds_toArray, List.set_cons_zero, List.set_cons_succ]
      refine take_at (i := 25) (k := 36) (v := .bool false) rfl rfl (by kernel_rfl) (by kernel_rfl) (by kernel_rfl) (fun _ _ _ h => h) (Or.inl ⟨by rfl, fun w _ => by go_simp⟩) hHeld ?_
      try simp only [Act.put, List.setIfInBounds_toArray, List.set_cons_zero, List.set_cons_succ]
      clear hHeld
      refine wpAnyH_done (by kernel_rfl) ?_ _
      have hr4 := (B2.out.block w.heap.size (Array.getElem?_eq_some_iff.1 HR3.out).1).trans HR3.out
      have hv4 := (B2.out.block g5 (Array.getElem?_eq_some_iff.1 HV3.out).1).trans HV3.out
      have HB4 := Lib.hid (HB3.out.trans (B2.out.mono HB3.out.size))
      have HL4 := Lib.hid (cut_sl_below HL3.out B2.out)
      obtain ⟨z0, z1, z2, z3, f0⟩ := zero_cells hr4
      have a0 := row_cell0 hv4
      have a1 := row_cell1 hv4
      have a2 := row_cell2 hv4
      have a3 := row_cell3 hv4
      have HR4 := Lib.hid hr4
      clear hr4 hv4
      go_wp2_with fail
      exact bodyPost_ret (v := .tuple #[val x.k x.n x.s (.slice pL x.q.len cL), .int .i64 0]) (results_val rfl _ _ w.heap.size _ _ _ _ _ rfl rfl (set_four HR4.out)) rfl (dec_yes HDX.out HOK.out HL4.out HB4.out h512)
    · rw [if_neg hr0] at HDX
      have k1 : ((N - x.r.length : Nat) : Int) ≠ (N : Int) := by omega
      have k2 : (((N - x.r.length : Nat) : Int) == (N : Int)) = false := by simpa using k1
      have G1 := Later.cell (w := w3) HS3.out.lt g1
      have G2 := Later.cell (w := w3) HS3.out.lt g2
      have k3 : ¬ N - x.r.length = N := by omega
      have k4 : (N - x.r.length == N) = false := by simpa using k3
      have k5 : (((N - x.r.length : Nat) : Int) != (N : Int)) = true := by simpa using k1
      have k6 : (N - x.r.length != N) = true := by simpa using k3
      generalize N - x.r.length = M at *
      clear g0 g1 g2
      refine wp_region_later (by kernel_rfl) (by kernel_rfl) ?_
      repeat (go_big_quiet_step (fail))
      refine wpQuiet_nil ?_
      intro _ hw'
      obtain ⟨y, hy⟩ := hw'
      subst hy
      have hr4 := (y.b.block w.heap.size (Array.getElem?_eq_some_iff.1 HR3.out).1).trans HR3.out
      have HB4 := Lib.hid (HB3.out.trans (y.b.mono HB3.out.size))
      obtain ⟨z0, z1, z2, z3, f0⟩ := zero_cells hr4
      have HR4 := Lib.hid hr4
      clear hr4 G1 G2
      go_wp2_with fail
      refine bodyPost_ret (v := .tuple #[val 0 0 ⟨#[]⟩ (.slice none 0 0), .int .i64 10]) ?_ rfl ?_
      · exact results_val rfl _ _ w.heap.size _ _ _ _ _ rfl rfl (set_four HR4.out)
      · unfold DecA
        rw [HDX.out]
        exact ⟨rfl, below_set (below_set (below_set (below_set HB4.out (Nat.le_refl _) _) (Nat.le_refl _) _) (Nat.le_refl _) _) (Nat.le_refl _) _⟩
end Go.Proofs.Ytaahmfmelmjahaa
namespace Go.Proofs.Ytaahmfmelmjahaa
open Go Go.RowKit
/-- what a Decode returns -/
def DecW (k n : Int) (s : ByteArray) (q : F) (e' : Int) (w : World) (e : Ending) (w' : World) : Prop := ∃ m p c, e = .returned (.tuple #[val k n s (.slice p m c), .int .i64 e']) ∧ Sl w' (.slice p m c) q ∧ Below w.heap.size w w'
theorem decA_w (l : List UInt8) : ∃ k n s q e', Okv k n s ∧ ∀ w e w', DecA l w e w' → DecW k n s q e' w e w' := by
  cases hd : dec l with
  | none =>
    refine ⟨0, 0, ⟨#[]⟩, .nil, 10, ok_zero, fun w e w' h => ?_⟩
    unfold DecA at h
    rw [hd] at h
    exact ⟨0, none, 0, h.1, slc_nil _, h.2⟩
  | some x =>
    have hall : ∀ w e w', DecA l w e w' → ∃ L, e = .returned (.tuple #[val x.k x.n x.s L, .int .i64 0]) ∧ Okv x.k x.n x.s ∧ Sl w' L x.q ∧ Below w.heap.size w w' := fun w e w' h => by
      unfold DecA at h
      rw [hd] at h
      exact h
    by_cases ho : Okv x.k x.n x.s
    · refine ⟨x.k, x.n, x.s, x.q, 0, ho, fun w e w' h => ?_⟩
      obtain ⟨L, h1, _, h3, h4⟩ := hall w e w' h
      obtain ⟨p, c, rfl, _⟩ := h3.shape
      exact ⟨_, p, c, h1, h3, h4⟩
    · refine ⟨0, 0, ⟨#[]⟩, .nil, 10, ok_zero, fun w e w' h => ?_⟩
      obtain ⟨_, _, h2, _⟩ := hall w e w' h
      exact (ho h2).elim
set_option maxHeartbeats 4000000 in
theorem lawDc (b N cap : Nat) (p : Option Addr) (l : List UInt8) (w : World) (hN : l.length = N) (hc : N ≤ cap) (hm : cap ≤ 9223372036854775807) (hb : BArg w b p l)
    (hsane : ∀ w : World, Calls Try.prog 10 #[] w (Ret (.bool true) w)) :
    Calls Try.prog 4 #[.slice p N cap] w (Ret (.bool true) w) := by
  have HS := Lib.hid hsane
  have HB := Lib.hid hb
  clear hsane hb
  by_cases hN2 : N ≤ 2000
  · obtain ⟨k, n, s, q, e', ho, hW⟩ := decA_w l
    have H1 := Lib.hid (fun (U : World) (hU : Below w.heap.size w U) => (dec_all b N cap p l U hN hc hm (HB.out.below hU) (by omega)).mono fun e w' h => hW U e w' h)
    have H2 := Lib.hid (fun (U : World) (hU : Below w.heap.size w U) => (rdec_all b N cap p l U hN hc hm (HB.out.below hU) (by omega)).mono fun e w' h => hW U e w' h)
    have H3 := Lib.hid (fun (U : World) (L L' : Value) (h : Sl U L q) (h' : Sl U L' q) => by
      have := rsame_any k n s q k n s q L L' U ho ho h h'
      rwa [eqv_refl] at this)
    have hee : (e' == e') = true := beq_self_eq_true e'
    have c1 : ¬ (2000 : Int) < (N : Int) := by omega
    clear hW
    go_enter Try.func4, Try.ntmps4
    go_wp2_with fail
    refine (HS.out _).mono ?_
    rintro e w1 ⟨rfl, hb1⟩
    have HB1 := Lib.hid hb1
    clear hb1
    go_wp2_with fail
    refine (H1.out _ HB1.out).mono ?_
    rintro e w2 ⟨m2, p2, c2, rfl, hs2, hb2⟩
    have HB2 := Lib.hid (HB1.out.trans (hb2.mono HB1.out.size))
    have HS2 := Lib.hid hs2
    clear hb2 hs2
    go_wp2_with fail
    have hb3 := one_new w2 (.cells #[.int .i64 k, .int .i64 n, .string s, .slice p2 m2 c2] 24)
    have hr3 : (w2.alloc (.cells #[.int .i64 k, .int .i64 n, .string s, .slice p2 m2 c2] 24)).heap[w2.heap.size]? = some (.cells #[.int .i64 k, .int .i64 n, .string s, .slice p2 m2 c2] 24 (0, 0)) := heap_alloc_new _ _
    have HB3 := Lib.hid (HB2.out.trans (hb3.mono HB2.out.size))
    have HS3 := Lib.hid (HS2.out.below hb3)
    have HR3 := Lib.hid hr3
    clear hb3 hr3 HS2 HB2
    refine (H2.out _ HB3.out).mono ?_
    rintro e w4 ⟨m4, p4, c4, rfl, hs4, hb4⟩
    have HB4 := Lib.hid (HB3.out.trans (hb4.mono HB3.out.size))
    have HS4 := Lib.hid hs4
    have HS34 := Lib.hid (HS3.out.below hb4)
    have hr4 := (hb4.block w2.heap.size (Array.getElem?_eq_some_iff.1 HR3.out).1).trans HR3.out
    have a0 := row_cell0 hr4
    have a1 := row_cell1 hr4
    have a2 := row_cell2 hr4
    have a3 := row_cell3 hr4
    have hlt4 := (Array.getElem?_eq_some_iff.1 hr4).1
    have hb5 := one_new w4 (.cells #[.int .i64 k, .int .i64 n, .string s, .slice p4 m4 c4] 24)
    have H5 := Lib.hid (H3.out _ _ _ (HS34.out.below hb5) (HS4.out.below hb5))
    have HB5 := Lib.hid (HB4.out.trans (hb5.mono HB4.out.size))
    clear hs4 hb4 hr4 hb5 HS3 HR3
    go_wp2_with fail
    refine H5.out.mono ?_
    rintro e w6 ⟨rfl, hb6⟩
    have HB6 := Lib.hid (HB5.out.trans (hb6.mono HB5.out.size))
    clear hb6 a0 a1 a2 a3
    go_wp2_with fail
    go_ret
    exact ⟨rfl, HB6.out⟩
  · have c1 : (2000 : Int) < (N : Int) := by omega
    go_enter Try.func4, Try.ntmps4
    go_wp2_with fail
    refine (HS.out _).mono ?_
    rintro e w1 ⟨rfl, hb1⟩
    go_wp2_with fail
    go_ret
    exact ⟨rfl, hb1⟩
end Go.Proofs.Ytaahmfmelmjahaa
