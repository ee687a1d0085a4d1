/-
  Merkle: texts.
-/
import Derived.Test.YteeabenmfmeooaaDoorLst
namespace Go.Proofs.YteeabenmfmeooaaDoor
open Go Go.RowKit
/-- it returns new bytes -/
def TxtR (l : List UInt8) (w : World) (e : Ending) (w' : World) : Prop := ∃ v, e = .returned v ∧ Hid (Own w' v (l.map byt)) ∧ (∀ k, v.ownBlock = some k → w.heap.size ≤ k) ∧ Below w.heap.size w w'
/-- the text so far -/
structure TI (w wr : World) (v : Value) (l : List UInt8) : Prop where
  own : Own wr v (l.map byt)
  new : ∀ k, v.ownBlock = some k → w.heap.size ≤ k
  below : Below w.heap.size w wr
theorem dg_bv {w : World} {g : Nat} {l : List UInt8} (h : Dg w g l) (hl : l.length = 32) : BV w (.slice (some ⟨g, 0, none⟩) 32 32) l := own_bv (dg_own h hl)
theorem zeros_len : (List.replicate 32 (0 : UInt8)).length = 32 := by simp
theorem TI.next {w wr w2 w3 : World} {v v' : Value} {l d : List UInt8} {x : Obj} (h : TI w wr v l) (hc : Chg wr.heap.size (wr.alloc x) w2) (ho : Own w3 v' ((l ++ d).map byt)) (hg : w2.grownBy w3 v.ownBlock) (hn : v'.ownBlock = v.ownBlock ∨ ∃ k, v'.ownBlock = some k ∧ w2.heap.size ≤ k) : TI w w3 v' (l ++ d) := by
  have hb := h.below
  have hs := hb.size
  have hs2 := hc.size
  rw [World.size_alloc] at hs2
  have h2 : Below w.heap.size w w2 := hb.trans ((chg_alloc_below hc rfl).mono hs)
  refine ⟨ho, fun k hk => ?_, ⟨hg.os.trans h2.os, hg.tape.trans h2.tape, hg.output.trans h2.output, Nat.le_trans h2.size hg.size, fun k hk => (hg.block k (by omega) (fun e => by have := h.new k e.symm; omega)).trans (h2.block k hk)⟩⟩
  rcases hn with hn | ⟨j, hn, hj⟩
  · exact h.new k (hn ▸ hk)
  · rw [hn] at hk; cases hk; omega
theorem TI.own2 {w wr w2 : World} {v : Value} {l : List UInt8} {x : Obj} (h : TI w wr v l) (hc : Chg wr.heap.size (wr.alloc x) w2) : Own w2 v (l.map byt) :=
  h.own.keep (by have := hc.size; rw [World.size_alloc] at this; omega) fun k hk => (chg_alloc_below hc rfl).block k (h.own.lt hk)
set_option maxRecDepth 100000 in
set_option maxHeartbeats 1000000 in
theorem text_any (s : ByteArray) (v : Value) (ds : List (List UInt8)) (w : World) (hs : s.size ≤ 1000000) (hv : LD w v ds) (h32 : D32 ds) (hn : ds.length ≤ 1000000) (hk : KOK w) : Calls Tryd.prog 59 #[.string s, v] w (TxtR (sha (bts s) ++ ds.flatten) w) := by
  have HV := Lib.hid hv
  obtain ⟨b, cap, p, rfl, hcap1, hcap2, hp0, hcell⟩ := hv
  unfold maxLen at hcap2
  have HCE := Lib.hid hcell
  have H32 := Lib.hid h32
  clear hcell hp0 h32
  obtain ⟨n, hnn⟩ : ∃ n, n = ds.length := ⟨_, rfl⟩
  have hcv := fun w1 : World => Lib.run_convert_string_bytes (P := Tryd.prog) w1 9 34 5 s Tryd.underlying9 Tryd.underlying34 Tryd.underlying5
  go_enter Tryd.func59, Tryd.ntmps59
  go_wp2_with fail
  refine (sum_any _ (bts s) _ (conv_bv_at _ _ (by simp) s (by omega)) (by rw [bts_len]; omega) (hk.below (conv_below _ s))).mono ?_
  rintro e w1 ⟨rfl, hb1⟩
  have hb2 : Below w.heap.size w w1 := (conv_below w s).trans (hb1.mono (by rw [Lib.bytesWorld_size]; omega))
  have HB2 := Lib.hid hb2
  rw [← hnn] at hcap1 hn HV ⊢
  clear hb1 hb2 hcv hk
  go_wp2_with (refine dg_store rfl (.tmp 5) (.tmp 11) rfl w1.heap.size _ _ (zeros32 w1) (by simp) (sha_len _) rfl rfl ?_; rintro w2 hd2 hc2)
  have hT0 : Hid (TI w w2 (.slice (some ⟨w1.heap.size, 0, none⟩) 32 32) (sha (bts s) ++ (ds.take 0).flatten)) := Lib.hid ⟨by simp only [List.take_zero, List.flatten_nil, List.append_nil]; exact dg_own hd2.out (sha_len _), fun k e => by cases e; exact HB2.out.size, HB2.out.trans ((chg_alloc_below hc2 rfl).mono HB2.out.size)⟩
  clear hc2
  go_loopw [6, 15] (fun t i wr => ∃ (k : Nat) (u : Value), u = t ∧ k ≤ n ∧ i = .int .i64 k ∧ Hid (TI w wr u (sha (bts s) ++ (ds.take k).flatten))) (fun _ i _ => n - (intOf i).toNat)
  case atStart => exact ⟨0, _, rfl, Nat.zero_le _, rfl, hT0⟩
  case round =>
    clear hT0
    obtain ⟨k, u, rfl, hk, rfl, HT⟩ := hrel
    by_cases hlt : k < n
    · have hltI : (k : Int) < (n : Int) := by omega
      obtain ⟨d, hd⟩ : ∃ d, ds[k]? = some d := ⟨_, List.getElem?_eq_getElem (by omega)⟩
      have hdl : d.length = 32 := H32.out d (List.mem_of_getElem? hd)
      rcases HCE.out with hnil | ⟨o, rfl, _, _⟩
      · rw [hnil] at hnn; simp at hnn; omega
      have hr := (HV.out.below HT.out.below).at H32.out k d hd
      have HR := Lib.hid hr
      have HZ := Lib.hid (zeros32 wr)
      have hlen : (sha (bts s) ++ (ds.take k).flatten).length + d.length ≤ 1099511627776 := by
        have := fl_len (l := ds.take k) (H32.out.take k)
        unfold fl at this
        rw [List.length_map, List.length_take] at this
        rw [List.length_append, sha_len, this, hdl]
        omega
      have HL := Lib.hid hlen
      clear hr hlen
      go_wp2_with (first
        | (refine el_load rfl (.tmp 17) rfl b (o + k * 32) d HR.out hdl rfl ?_)
        | (refine dg_store rfl (.tmp 8) (.tmp 18) rfl wr.heap.size _ _ HZ.out (by simp) hdl rfl rfl ?_; rintro w3 hd3 hc3)
        | (refine bytes_own rfl (.tmp 19) (.tmp 20) rfl _ _ (sha (bts s) ++ (ds.take k).flatten) d rfl (HT.out.own2 hc3) rfl (dg_bv hd3.out hdl) HL.out ?_; rintro v' w4 ho4 hg4 hv4; have HT2 := Lib.hid (HT.out.next hc3 ho4.out hg4 hv4)))
      have ht : sha (bts s) ++ (ds.take k).flatten ++ d = sha (bts s) ++ (ds.take (k + 1)).flatten := by
        rw [List.take_add_one, hd, List.append_assoc]; simp
      rw [ht] at HT2
      go_roundw
      case rel => exact ⟨k + 1, v', rfl, by omega, by go_num, HT2⟩
      case measure => simp [intOf]; omega
    · have hltI : ¬ (k : Int) < (n : Int) := by omega
      go_wp2_with fail
      have hT := HT.out
      rw [List.take_of_length_le (by omega)] at hT
      go_ret
      exact ⟨_, rfl, Lib.hid hT.own, hT.new, hT.below⟩
end Go.Proofs.YteeabenmfmeooaaDoor
