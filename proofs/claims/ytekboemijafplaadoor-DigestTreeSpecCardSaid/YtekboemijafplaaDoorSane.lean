/-
  Digest: the chapter's examples.
-/
import Derived.Test.YtekboemijafplaaDoorCb
import Derived.Test.YtekboemijafplaaDoorAbc
import Derived.Test.YtekboemijafplaaDoorEq
import Derived.Lib.SlBytesConst
namespace Go.Proofs.YtekboemijafplaaDoor
open Go Go.RowKit
def PathNo (w : World) (e : Ending) (w' : World) : Prop := e = .returned (.tuple #[.slice none 0 0, .int .i64 1]) ∧ Below w.heap.size w w'
set_option maxHeartbeats 1000000 in
theorem path_out (q : Option Addr) (m cap : Nat) (at' : Int) (w : World) (h : at' < 0 ∨ (m : Int) ≤ at') : Calls Tryd.prog 19 #[.slice q m cap, .int .i64 at'] w (PathNo w) := by
  by_cases h0 : at' < 0
  · have c1 : decide (at' < 0) = true := by simp [h0]
    go_enter Tryd.func19, Tryd.ntmps19
    go_wp2_with fail
    go_ret2
    exact ⟨rfl, Below.refl _ _⟩
  · have c1 : decide (at' < 0) = false := by simp [h0]
    have c2 : decide ((m : Int) ≤ at') = true := by simp; omega
    go_enter Tryd.func19, Tryd.ntmps19
    go_wp2_with fail
    go_ret2
    exact ⟨rfl, Below.refl _ _⟩
theorem bv_three (w : World) (cs : List UInt8) (fr : Nat × Nat) (h : cs.length ≤ 9223372036854775807) : BV (w.alloc (.cells (cs.map byt).toArray 5 fr)) (.slice (some ⟨w.heap.size, 0, none⟩) cs.length cs.length) cs :=
  ⟨w.heap.size, cs.length, _, rfl, Nat.le_refl _, h, (fun e => by cases e), .inr ⟨0, rfl, by simp, fun j c hj => by
    have e : (w.alloc (.cells (cs.map byt).toArray 5 fr)).heap[w.heap.size]? = some (.cells (cs.map byt).toArray 5 fr) := by
      show (w.heap.push _)[w.heap.size]? = _
      simp
    simp only [World.cell?]
    rw [e]
    simp [hj]⟩⟩
/-- two digests lie in new blocks -/
structure Ab (w U : World) (g : Nat) (a b : List UInt8) : Prop where
  a : Dg U g a
  b : Dg U (g + 1) b
  below : Below w.heap.size w U
theorem Ab.later {w U U' : World} {g : Nat} {a b : List UInt8} (h : Ab w U g a b) (hb : Below U.heap.size U U') : Ab w U' g a b := ⟨h.a.below hb, h.b.below hb, h.below.trans (hb.mono h.below.size)⟩
theorem take4 {l : List UInt8} {a b c d : UInt8} (h : l.take 4 = [a, b, c, d]) : l.getD 0 0 = a ∧ l.getD 1 0 = b ∧ l.getD 2 0 = c ∧ l.getD 3 0 = d := by
  rcases l with _ | ⟨x0, _ | ⟨x1, _ | ⟨x2, _ | ⟨x3, r⟩⟩⟩⟩ <;> simp at h
  obtain ⟨rfl, rfl, rfl, rfl⟩ := h
  simp
theorem ld_new (w : World) (l : List (List UInt8)) (h32 : D32 l) (hl : l.length ≤ 1000) : LD (w.alloc (.cells (fl l).toArray 26)) (.slice (some ⟨w.heap.size, 0, none⟩) l.length l.length) l :=
  ⟨w.heap.size, l.length, _, rfl, Nat.le_refl _, by unfold maxLen; omega, (fun e => by cases e), .inr ⟨0, rfl, by simp, fun j c hj => by
    rw [Nat.zero_add, World.cell?_alloc_new]
    simpa using hj⟩⟩
theorem range_below {w w' : World} {b o : Nat} {xs : List Value} (h : w.rangeAt b o xs) (hb : Below w.heap.size w w') : w'.rangeAt b o xs := fun j u hj => by
  rw [World.cell?_of_block (w := w) (a := ⟨b, o + j, none⟩) (hb.block b (World.block_lt_of_cell? w _ (h j u hj)))]
  exact h j u hj
/-- the digest 1, 0, 0, .. -/
def d1 : List UInt8 := 1 :: List.replicate 31 0
theorem dg_cell {w : World} {g : Nat} {l : List UInt8} (h : Dg w g l) (hl : l.length = 32) (i : Nat) (hi : i < 32) (c : UInt8) (hc : l.getD i 0 = c) : w.cell? ⟨g, i, none⟩ = some (byt c) := by rw [h.get i (by omega), hc]
set_option maxRecDepth 100000 in
set_option maxHeartbeats 2000000 in
theorem sane_any (w : World) (hk : KOK w) : Calls Tryd.prog 11 #[] w (Ret (.bool true) w) := by
  have HK := Lib.hid hk
  clear hk
  have hcv := Lib.run_convert_bytes_const (P := Tryd.prog) w 22 5 #[.int .u8 97, .int .u8 98, .int .u8 99] 3 3 Tryd.underlying22 Tryd.underlying5
  go_enter Tryd.func11, Tryd.ntmps11
  go_wp2_with fail
  have b0 := one_new w (.cells ([97, 98, 99].map byt).toArray 5 (3, 4))
  refine (sum_any _ [97, 98, 99] _ (bv_three w [97, 98, 99] (3, 4) (by simp)) (by simp) (HK.out.below b0)).mono ?_
  rintro e w1 ⟨rfl, hb1⟩
  have hB1 : Hid (Below w.heap.size w w1) := Lib.hid (b0.trans (hb1.mono (by simp)))
  clear b0 hb1
  go_wp2_with fail
  refine (sum_any _ [] _ ⟨0, 0, none, rfl, Nat.le_refl _, by omega, fun _ => rfl, .inl rfl⟩ (by simp) (HK.out.below hB1.out)).mono ?_
  rintro e w2 ⟨rfl, hb2⟩
  have hB2 : Hid (Below w.heap.size w w2) := Lib.hid (hB1.out.trans (hb2.mono hB1.out.size))
  clear hb2 hB1
  have hz2 := (two w2 zeros)
  have H2 : Hid (Two w2 ((w2.alloc (.cells ((List.replicate 32 (0 : UInt8)).map byt).toArray 26)).alloc (.cells ((List.replicate 32 (0 : UInt8)).map byt).toArray 26)) zeros) := Lib.hid (two w2 zeros)
  clear hz2 hcv
  go_wp2_with (first
    | (refine dg_store rfl (.tmp 1) (.tmp 12) rfl w2.heap.size zeros (sha [97, 98, 99]) H2.out.a (by simp [zeros]) (sha_len _) rfl rfl ?_; rintro w3 hd3 hc3; have hz3 : Dg w3 (w2.heap.size + 1) zeros := (hc3.block _ (by have := H2.out.size; exact Nat.lt_of_lt_of_eq (Nat.lt_succ_self _) this.symm) (by omega)).trans H2.out.z)
    | (refine dg_store rfl (.tmp 2) (.tmp 13) rfl (w2.heap.size + 1) zeros (sha []) hz3 (by simp [zeros]) (sha_len _) rfl rfl ?_; rintro w4 hd4 hc4)
    | (go_at_call 19; refine (path_out _ _ _ _ _ (.inr (by simp))).mono ?_; rintro e w5 ⟨rfl, hb5⟩))
  have H5 : Hid (Ab w w5 w2.heap.size (sha [97, 98, 99]) (sha [])) := by
    have hs2 := H2.out.size
    have b3 := Chg.below (m := w2.heap.size) H2.out.below H2.out.below.size (Nat.le_refl _) hc3
    have b4 := Chg.below (m := w2.heap.size) b3 b3.size (Nat.le_succ _) hc4
    have hd4' : Dg w4 w2.heap.size (sha [97, 98, 99]) := (hc4.block _ (by have := hc3.size; have := Nat.le_trans (Nat.le_of_eq H2.out.size.symm) this; omega) (by omega)).trans hd3.out
    exact Lib.hid ((Ab.mk hd4' hd4.out (hB2.out.trans (b4.mono hB2.out.size))).later hb5)
  clear hc3 hc4 hd3 hd4 hz3 H2 hb5 hB2
  generalize w2.heap.size = g at *
  refine (climb_len zeros 0 2 none 0 0 w5 (by omega) (by omega) (by omega) (by decide)).mono ?_
  rintro e w6 ⟨rfl, hb6⟩
  have H6 := Lib.hid (H5.out.later hb6)
  clear H5 hb6
  go_wp2_with (first
    | (refine dg_store rfl (.tmp 5) (.tmp 21) rfl w6.heap.size zeros zeros (zeros32 w6) (by simp [zeros]) (by simp [zeros]) rfl rfl ?_; rintro w7 hd7 hc7; have H7 := Lib.hid (H6.out.later (chg_alloc_below hc7 rfl)); clear H6 hd7 hc7))
  refine (climb_ok d1 0 1 [] (.slice none 0 0) w7 (by omega) (by omega) (by omega) (by simp [d1]) (fun d hd => by cases hd) (by simp [PL_one]) ⟨0, 0, none, rfl, Nat.le_refl _, by simp, fun _ => rfl, .inl rfl⟩ (HK.out.below H7.out.below)).mono ?_
  rintro e w8 ⟨rfl, hb8⟩
  rw [CL_one]
  have H8 := Lib.hid (H7.out.later hb8)
  clear H7 hb8
  go_wp2_with (first
    | (refine dg_store rfl (.tmp 7) (.tmp 26) rfl w8.heap.size zeros (tg (bts sLeaf) d1) (zeros32 w8) (by simp [zeros]) (tg_len _ _) rfl rfl ?_; rintro w9 hd9 hc9; have H9 := Lib.hid (H8.out.later (chg_alloc_below hc9 rfl)); clear hc9 H8
       have ca0 : w9.cell? ⟨g, 0, none⟩ = some (.int .u8 186) := dg_cell H9.out.a (sha_len _) 0 (by omega) 186 (take4 sha_abc).1
       have ca1 : w9.cell? ⟨g, 1, none⟩ = some (.int .u8 120) := dg_cell H9.out.a (sha_len _) 1 (by omega) 120 (take4 sha_abc).2.1
       have ca2 : w9.cell? ⟨g, 2, none⟩ = some (.int .u8 22) := dg_cell H9.out.a (sha_len _) 2 (by omega) 22 (take4 sha_abc).2.2.1
       have ca3 : w9.cell? ⟨g, 3, none⟩ = some (.int .u8 191) := dg_cell H9.out.a (sha_len _) 3 (by omega) 191 (take4 sha_abc).2.2.2
       have cb0 : w9.cell? ⟨g + 1, 0, none⟩ = some (.int .u8 227) := dg_cell H9.out.b (sha_len _) 0 (by omega) 227 (take4 sha_nil).1
       have cb1 : w9.cell? ⟨g + 1, 1, none⟩ = some (.int .u8 176) := dg_cell H9.out.b (sha_len _) 1 (by omega) 176 (take4 sha_nil).2.1
       have cb2 : w9.cell? ⟨g + 1, 2, none⟩ = some (.int .u8 196) := dg_cell H9.out.b (sha_len _) 2 (by omega) 196 (take4 sha_nil).2.2.1
       have cb3 : w9.cell? ⟨g + 1, 3, none⟩ = some (.int .u8 66) := dg_cell H9.out.b (sha_len _) 3 (by omega) 66 (take4 sha_nil).2.2.2
       skip))
  have HB9 := Lib.hid H9.out.below
  clear ca0 ca1 ca2 ca3 cb0 cb1 cb2 cb3 H9
  have hd9' := hd9.out
  rw [← T_one] at *
  have hr9 := dg_range hd9'
  clear hd9 hd9'
  have hu26 := Tryd.underlying26
  have hsx : (Tryd.prog.info? 26).map (·.size) = some ((T [d1]).map byt).length := by rw [size26, List.length_map, T_len]
  have heq1 : ∀ w, (Op.equalIn 10000 26 (dgv (T [d1])) (dgv (T [d1]))).run Tryd.prog w = .ok true w := fun w => by rw [dg_equal _ _ (T_len _) (T_len _), beq_self_eq_true]
  have heq2 : ∀ w, (Op.equalIn 10000 26 (dgv (T [])) (dgv (T []))).run Tryd.prog w = .ok true w := fun w => by rw [dg_equal _ _ (T_len _) (T_len _), beq_self_eq_true]
  have heq3 : ∀ w, (Op.equalIn 10000 26 (dgv (tg (bts sChain) (zeros ++ zeros))) (dgv (tg (bts sChain) (zeros ++ zeros)))).run Tryd.prog w = .ok true w := fun w => by rw [dg_equal _ _ (tg_len _ _) (tg_len _ _), beq_self_eq_true]
  generalize w8.heap.size = h at *
  have hb10 : Below w.heap.size w (w9.alloc (.cells (fl [d1]).toArray 26)).drew := below_drew (HB9.out.trans ((one_new w9 _).mono HB9.out.size))
  have D1 : D32 [d1] := by
    intro x hx
    simp at hx
    rw [hx]
    rfl
  have C1 := Lib.hid (tree_any [d1] (.slice (some ⟨w9.heap.size, 0, none⟩) 1 1) (w9.alloc (.cells (fl [d1]).toArray 26)).drew (by simp) D1 ((ld_new w9 [d1] D1 (by simp)).below (below_drew (Below.refl _ _))) (HK.out.below hb10))
  have HB10 := Lib.hid hb10
  have hr10 : (w9.alloc (.cells (fl [d1]).toArray 26)).drew.rangeAt h 0 ((T [d1]).map byt) := World.rangeAt_alloc hr9 _
  have HR10 := Lib.hid hr10
  clear hb10 hr10
  have mk : ∀ W : World, (Instr.makeSlice 22 (.int .i64 64) (.int .i64 64)).run Tryd.prog W = .ok (.slice (some ⟨W.heap.size, 0, none⟩) 64 64) (W.alloc (.cells ((List.replicate 64 (0 : UInt8)).map byt).toArray 5)) := made_run 64 (by omega)
  have hz64 : (List.replicate 64 (0 : UInt8)) = zeros ++ zeros := by decide
  go_region_held2 (fun w' => w'.rangeAt h 0 ((T [d1]).map byt)) (go_keep_ranges) (first
    | (have _ := HBDA; go_at_call 14; refine (tagged_any sChain (.slice (some ⟨wd.heap.size, 0, none⟩) 64 64) (List.replicate 64 0) (wd.alloc (.cells ((List.replicate 64 (0 : UInt8)).map byt).toArray 5)) (by decide) (bv_three wd (List.replicate 64 0) (0, 0) (by simp)) (by simp) (HK.out.below (HBDA.out.trans ((one_new wd _).mono HBDA.out.size)))).mono ?_; rintro e we ⟨rfl, hbe⟩
       have hbw := HBDA.out.trans ((one_new wd (.cells ((List.replicate 64 (0 : UInt8)).map byt).toArray 5)).mono HBDA.out.size)
       have HBE := Lib.hid (hbw.trans (hbe.mono hbw.size))
       have hre := range_below (World.rangeAt_alloc hrd _) hbe
       rw [hz64]
       clear hbe hbw)
    | (have _ := HBDB; go_at_call 14; refine (tagged_any sChain (.slice (some ⟨wc.heap.size, 0, none⟩) 64 64) (List.replicate 64 0) wd (by decide) HVB.out (by simp) (HK.out.below HBDB.out)).mono ?_; rintro e we ⟨rfl, hbe⟩
       have HBE := Lib.hid (HBDB.out.trans (hbe.mono HBDB.out.size))
       have hre := range_below hrd hbe
       rw [hz64]
       clear hbe)
    | (have _ := HBC; go_at_call 25; refine (chain_any zeros zeros wc (by simp [zeros]) (by simp [zeros]) (HK.out.below HBC.out)).mono ?_; rintro e wd ⟨rfl, hbd⟩
       have HBDA := Lib.hid (HBC.out.trans (hbd.mono HBC.out.size))
       have hrd := range_below hrc hbd
       clear hbd)
    | (have _ := HBC; go_at_call 25; refine (chain_any zeros zeros (wc.alloc (.cells ((List.replicate 64 (0 : UInt8)).map byt).toArray 5)) (by simp [zeros]) (by simp [zeros]) (HK.out.below (HBC.out.trans ((one_new wc _).mono HBC.out.size)))).mono ?_; rintro e wd ⟨rfl, hbd⟩
       have hbw := HBC.out.trans ((one_new wc (.cells ((List.replicate 64 (0 : UInt8)).map byt).toArray 5)).mono HBC.out.size)
       have HBDB := Lib.hid (hbw.trans (hbd.mono hbw.size))
       have HVB := Lib.hid ((bv_three wc (List.replicate 64 0) (0, 0) (by simp)).below hbd)
       have hrd := range_below (World.rangeAt_alloc hrc _) hbd
       clear hbd hbw)
    | (have _ := HBB; go_at_call 14; refine (tagged_any sEmpty _ [] _ (by decide) ⟨0, 0, none, rfl, Nat.le_refl _, by omega, fun _ => rfl, .inl rfl⟩ (by simp) (HK.out.below HBB.out)).mono ?_; rintro e wc ⟨rfl, hbc⟩
       have HBC := Lib.hid (HBB.out.trans (hbc.mono HBB.out.size))
       have hrc := range_below hrb hbc
       rw [← T_nil]
       clear hbc)
    | (have _ := HBA; go_at_call 17; refine (tree_any [] _ _ (by simp) (fun d hd => by cases hd) ⟨0, 0, none, rfl, Nat.le_refl _, by simp, fun _ => rfl, .inl rfl⟩ (HK.out.below HBA.out)).mono ?_; rintro e wb ⟨rfl, hbb⟩
       have HBB := Lib.hid (HBA.out.trans (hbb.mono HBA.out.size))
       have hrb := range_below hra hbb
       clear hbb)
    | (go_at_call 17; refine C1.out.mono ?_; rintro e wa ⟨rfl, hba⟩
       have HBA : Hid (Below w.heap.size w wa) := Lib.hid (HB10.out.trans (hba.mono HB10.out.size))
       have hra := range_below HR10.out hba
       clear hba))
  all_goals
    go_wp2_with fail
    go_ret
    exact ⟨rfl, HBE.out⟩
end Go.Proofs.YtekboemijafplaaDoor
