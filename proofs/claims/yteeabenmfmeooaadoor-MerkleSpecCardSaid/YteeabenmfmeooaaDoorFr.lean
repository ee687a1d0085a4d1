/-
  Merkle: the first row.
-/
import Derived.Test.YteeabenmfmeooaaDoorRw
import Derived.Test.YteeabenmfmeooaaDoorCt
namespace Go.Proofs.YteeabenmfmeooaaDoor
open Go Go.RowKit
/-- the slice holds these byte slices -/
def LB (w : World) (v : Value) (l : List (List UInt8)) : Prop :=
  ∃ b cap p, v = .slice p l.length cap ∧ l.length ≤ cap ∧ cap ≤ maxLen ∧ (p = none → cap = 0) ∧ (l = [] ∨ ∃ o, p = some ⟨b, o, none⟩ ∧ b < w.heap.size ∧ ∀ k x, l[k]? = some x → ∃ u, w.cell? ⟨b, o + k, none⟩ = some u ∧ BV w u x)
theorem LB.below {w w' : World} {v : Value} {l : List (List UInt8)} (h : LB w v l) (hb : Below w.heap.size w w') : LB w' v l := by
  obtain ⟨b, cap, p, rfl, h1, h2, h3, h4⟩ := h
  refine ⟨b, cap, p, rfl, h1, h2, h3, ?_⟩
  rcases h4 with h4 | ⟨o, e, hlt, hc⟩
  · exact .inl h4
  · refine .inr ⟨o, e, Nat.lt_of_lt_of_le hlt hb.size, fun k x hk => ?_⟩
    obtain ⟨u, hu, hx⟩ := hc k x hk
    exact ⟨u, (hb.cell (p := ⟨b, o + k, none⟩) hlt).trans hu, hx.below hb⟩
abbrev leafD (x : List UInt8) : List UInt8 := sha (leafT x)
theorem leaf32 (l : List (List UInt8)) : D32 (l.map leafD) := fun d hd => by
  obtain ⟨x, _, rfl⟩ := List.mem_map.1 hd
  exact sha_len _
set_option maxRecDepth 100000 in
set_option maxHeartbeats 2000000 in
theorem first_any (v : Value) (l : List (List UInt8)) (w : World) (hv' : LB w v l) (hn : l.length ≤ 100000) (h1 : ∀ x ∈ l, x.length ≤ 1000000) (hk : KOK w) : Calls Tryd.prog 39 #[hv, v] w (RowR (l.map leafD) w) := by
  have HV := Lib.hid hv'
  have HK := Lib.hid hk
  have H1 := Lib.hid h1
  obtain ⟨b, cap, p, rfl, hc1, hc2, _, hc4⟩ := hv'
  have HC4 := Lib.hid hc4
  unfold maxLen at hc2
  obtain ⟨n, hnn⟩ : ∃ n, n = l.length := ⟨_, rfl⟩
  rw [← hnn] at hc1 hn HV ⊢
  clear hk h1 hc4
  go_enter Tryd.func39, Tryd.ntmps39
  go_wp2_with fail
  have hT0 : Hid (RowI w w (.slice none 0 0) ((l.map leafD).take 0)) := Lib.hid ⟨OwnN.nil 32 w, (fun k e => by cases e), Below.refl _ _⟩
  go_loopw [4, 9] (fun t i wr => ∃ (k : Nat) (u : Value), u = t ∧ k ≤ n ∧ i = .int .i64 k ∧ Hid (RowI w wr u ((l.map leafD).take k))) (fun _ i _ => n - (intOf i).toNat)
  case atStart => exact ⟨0, _, rfl, Nat.zero_le _, rfl, hT0⟩
  case round =>
    clear hT0
    obtain ⟨k, u, rfl, hk, rfl, HT⟩ := hrel
    by_cases hlt : k < n
    · have hltI : (k : Int) < (n : Int) := by omega
      obtain ⟨x, hx⟩ : ∃ x, l[k]? = some x := ⟨_, List.getElem?_eq_getElem (by omega)⟩
      have hxl := H1.out x (List.mem_of_getElem? hx)
      rcases HC4.out with hnil | ⟨o, rfl, hblt, hcc⟩
      · rw [hnil] at hnn; simp at hnn; omega
      obtain ⟨vx, hvx, hbx⟩ := hcc k x hx
      have hcw := (HT.out.below.cell (p := ⟨b, o + k, none⟩) hblt).trans hvx
      have HBX := Lib.hid (hbx.below (HT.out.below.mono (Nat.le_refl _)))
      have HKR := Lib.hid (HK.out.below HT.out.below)
      have hlk : (((l.map leafD).take k) ++ [leafD x]) = (l.map leafD).take (k + 1) := by rw [List.take_add_one, List.getElem?_map, hx]; simp
      have hlen : ((l.map leafD).take k).length ≤ 1000000 := by simp; omega
      have HLK := Lib.hid hlk
      have HLEN := Lib.hid hlen
      clear hx hcc hvx hbx hlk hlen
      obtain ⟨p0, c0, m0, hvf⟩ : ∃ p0 c0 m0, vx = .slice p0 m0 c0 := by
        obtain ⟨_, c0, p0, e, _⟩ := HBX.out
        exact ⟨p0, c0, _, e⟩
      subst hvf
      go_wp2_with (first
        | (go_at_call 48; refine (leafT_any _ x wr HBX.out hxl HKR.out).mono ?_; rintro e w3 ⟨vt, rfl, ht3, hn3, hb3⟩; have HT3 := Lib.hid (HT.out.later hb3); have HK3 := Lib.hid (HKR.out.below hb3))
        | (go_at_call 21; refine (sum_any vt (leafT x) w3 (own_bv ht3.out) (by rw [leafT_len]; omega) HK3.out).mono ?_; rintro e w4 ⟨rfl, hb4⟩; have HT4 := Lib.hid (HT3.out.later hb4))
        | (refine wpList_bs1 rfl 17 rfl (leafD x) rfl (sha_len _) ?_; rintro w5 hv5 hb5; have HT5 := Lib.hid (HT4.out.later hb5))
        | (refine wpList_add rfl 13 18 rfl _ _ rfl rfl _ (leafD x) HT5.out.own hv5.out HLEN.out ?_; rintro v6 w6 ho6 hg6 hn6; have HT6 := Lib.hid (HT5.out.next ho6 hg6 hn6)))
      rw [HLK.out] at HT6
      go_roundw
      case rel => exact ⟨_, _, _, ⟨k + 1, by omega, by go_num, HT6⟩, rfl, rfl, rfl⟩
      case measure => simp [intOf]; omega
    · have hltI : ¬ (k : Int) < (n : Int) := by omega
      go_wp2_with fail
      have hT := HT.out
      rw [List.take_of_length_le (by rw [List.length_map]; omega)] at hT
      go_ret
      exact ⟨_, rfl, Lib.hid hT⟩
end Go.Proofs.YteeabenmfmeooaaDoor
