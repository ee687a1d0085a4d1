/-
  Merkle: join; Chunk's call.
-/
import Derived.Test.YteeabenmfmeooaaDoorChk
namespace Go.Proofs.YteeabenmfmeooaaDoor
open Go Go.RowKit Go.Shelf
attribute [local go_sem] Oper.semAt_some
theorem chunk_mk (m n c : Nat) (p : Option Addr) (w : World) : CallsIn Fence.wide m Tryd.prog 55 #[.slice p n c, .int .i64 2] w fun e w' => e = .returned (.func (.func 62) #[] #[.pointer (some ⟨w.heap.size, 0, none⟩), .pointer (some ⟨w.heap.size + 1, 0, none⟩)]) ∧ w' = (w.alloc (.cells #[.slice p n c] 25)).alloc (.cells #[.int .i64 2] 3) := by
  refine callsIn_of_wp Tryd.func55 rfl trivial ?_ rfl
  simp only [Tryd.ntmps55, List.size_toArray, List.length_cons, List.length_nil, Nat.reduceAdd, Nat.reduceSub, Array.replicate_succ, Array.replicate_zero, List.push_toArray, List.append_toArray, List.nil_append, List.cons_append]
  gi_wp2
  go_ret
  exact ⟨rfl, rfl⟩
/-- what a row has for one or two digests of the row before -/
def joinD (p : List (List UInt8)) : List UInt8 := if p.length = 1 then p.headD [] else sha (sha (bts sNode) ++ p.flatten)
theorem joinD_len {p : List (List UInt8)} (h : D32 p) (hp : p ≠ []) : (joinD p).length = 32 := by
  unfold joinD
  split
  · obtain ⟨d, r, rfl⟩ := List.exists_cons_of_ne_nil hp
    exact h d (List.mem_cons_self ..)
  · exact sha_len _
set_option maxRecDepth 100000 in
set_option maxHeartbeats 1000000 in
theorem join_any (v : Value) (p : List (List UInt8)) (w : World) (hv' : LD w v p) (h32 : D32 p) (hp : p ≠ []) (hn : p.length ≤ 1000000) (hk : KOK w) : Calls Tryd.prog 56 #[hv, v] w (DgR (joinD p) w) := by
  have HV := Lib.hid hv'
  have HK := Lib.hid hk
  have H32 := Lib.hid h32
  obtain ⟨b, cap, q, rfl, hc1, hc2, _, hc4⟩ := hv'
  have hd0 := Lib.hid (zeros32 w)
  have hb0 := Lib.hid (one_new w (.cells ((List.replicate 32 (0 : UInt8)).map byt).toArray 30))
  by_cases h1 : p.length = 1
  · obtain ⟨d, rfl⟩ : ∃ d, p = [d] := List.length_eq_one_iff.1 h1
    have hdl := h32 d (List.mem_cons_self ..)
    have hj : joinD [d] = d := rfl
    rw [hj]
    rcases hc4 with hc4 | ⟨o, rfl, hlt, hra⟩
    · cases hc4
    rw [fl_one] at hra
    have HR := Lib.hid (fun (U : World) (hb : Below w.heap.size w U) => (fun j u hj => (hb.cell (p := ⟨b, o + j, none⟩) hlt).trans (hra j u hj) : U.rangeAt b o (d.map byt)))
    clear hra h32 hk
    go_enter Tryd.func56, Tryd.ntmps56
    go_wp2_with (first
      | (refine el_load rfl (.tmp 9) rfl b o d (HR.out _ hb0.out) hdl rfl ?_)
      | (refine dg_store rfl (.tmp 4) (.tmp 10) rfl w.heap.size _ _ hd0.out (by simp) hdl rfl rfl ?_; rintro w3 hd3 hc3))
    exact bodyPost_ret (results_cell_row rfl _ _ w.heap.size 30 _ (0, 0) _ rfl hd3.out Tryd.underlying30 rfl (dg_size hdl)) rfl ⟨rfl, Chg.below hb0.out hb0.out.size (Nat.le_refl _) hc3⟩
  · have hj : joinD p = sha (sha (bts sNode) ++ p.flatten) := by unfold joinD; rw [if_neg h1]
    rw [hj]
    have h1I : ¬ (p.length : Int) = 1 := by omega
    have HT := Lib.hid (fun (U : World) (hb : Below w.heap.size w U) => text_any sNode (.slice q p.length cap) p U (by decide) (HV.out.below hb) H32.out hn (HK.out.below hb))
    have hlen : (sha (bts sNode) ++ p.flatten).length ≤ 1000000000 := by
      have := fl_len h32
      unfold fl at this
      rw [List.length_map] at this
      rw [List.length_append, sha_len, this]
      omega
    have HLEN := Lib.hid hlen
    clear h32 hk hj hlen
    go_enter Tryd.func56, Tryd.ntmps56
    go_wp2_with (first
      | (go_at_call 59; refine (HT.out _ hb0.out).mono ?_; rintro e w1 ⟨vt, rfl, hot, hnt, hb1⟩; have hB := Lib.hid (hb0.out.trans (hb1.mono hb0.out.size)); have hd1 := Lib.hid (hd0.out.below hb1))
      | (go_at_call 21; refine (sum_any vt _ w1 (own_bv hot.out) (by have := HLEN.out; omega) (HK.out.below hB.out)).mono ?_; rintro e w2 ⟨rfl, hb2⟩; have hB2 := Lib.hid (hB.out.trans (hb2.mono hB.out.size)); have hd2 := Lib.hid (hd1.out.below hb2))
      | (refine dg_store rfl (.tmp 4) (.tmp 14) rfl w.heap.size _ _ hd2.out (by simp) (sha_len _) rfl rfl ?_; rintro w3 hd3 hc3))
    exact bodyPost_ret (results_cell_row rfl _ _ w.heap.size 30 _ (0, 0) _ rfl hd3.out Tryd.underlying30 rfl (dg_size (sha_len _))) rfl ⟨rfl, Chg.below hB2.out hB2.out.size (Nat.le_refl _) hc3⟩
/-- the pieces of a row, and the next row -/
def piece (l : List (List UInt8)) (k : Nat) : List (List UInt8) := (l.drop (2 * k)).take 2
def nextL (l : List (List UInt8)) : List (List UInt8) := (List.range ((l.length + 1) / 2)).map fun k => joinD (piece l k)
theorem nextL_len (l : List (List UInt8)) : (nextL l).length = (l.length + 1) / 2 := by simp [nextL]
theorem piece_len (l : List (List UInt8)) (k : Nat) : (piece l k).length = min 2 (l.length - 2 * k) := by simp [piece]
theorem nextL_at {l : List (List UInt8)} {k : Nat} (h : 2 * k < l.length) : (nextL l)[k]? = some (joinD (piece l k)) := by
  unfold nextL
  rw [List.getElem?_map, List.getElem?_range (by omega)]
  rfl
theorem piece_ne {l : List (List UInt8)} {k : Nat} (h : 2 * k < l.length) : piece l k ≠ [] := fun e => by
  have := piece_len l k
  rw [e] at this
  simp at this
  omega
theorem piece32 {l : List (List UInt8)} (h : D32 l) (k : Nat) : D32 (piece l k) := (h.drop _).take _
theorem nextL32 {l : List (List UInt8)} (h : D32 l) : D32 (nextL l) := fun d hd => by
  unfold nextL at hd
  obtain ⟨k, hk, rfl⟩ := List.mem_map.1 hd
  exact joinD_len (piece32 h k) (piece_ne (by have := List.mem_range.1 hk; omega))
/-- the piece k lies where Chunk points -/
theorem piece_ld {w : World} {b o _c : Nat} {l : List (List UInt8)} (h32 : D32 l) (hb : b < w.heap.size) (hra : w.rangeAt b o (fl l)) (k : Nat) (hk : 2 * k < l.length) : LD w (chV b o l.length k) (piece l k) := by
  have h1 := LD.range_drop h32 hra (2 * k) (by omega)
  have h2 := LD.range_take h1 2
  unfold chV
  rw [← piece_len]
  exact ⟨b, _, _, rfl, Nat.le_refl _, by rw [piece_len]; unfold maxLen; omega, (fun e => by cases e), .inr ⟨_, rfl, hb, h2⟩⟩
end Go.Proofs.YteeabenmfmeooaaDoor
