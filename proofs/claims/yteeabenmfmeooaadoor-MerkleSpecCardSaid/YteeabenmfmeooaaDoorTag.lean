/-
  Digest: hashes under a tag.
-/
import Derived.Test.YteeabenmfmeooaaDoorSum
import Derived.Test.YteeabenmfmeooaaDoorOwn
import Derived.Lib.ConvBytes
namespace Go.Proofs.YteeabenmfmeooaaDoor
open Go Go.RowKit
/-- the bytes of a string -/
def bts (s : ByteArray) : List UInt8 := s.data.toList
theorem bts_len (s : ByteArray) : (bts s).length = s.size := by unfold bts; rw [Array.length_toList]; rfl
theorem conv_bv (w : World) (s : ByteArray) (hs : s.size ≤ 1099511627776) : BV (Lib.bytesWorld w 5 s) (.slice (some ⟨w.heap.size, 0, none⟩) s.size (grownCap w s.size 0 5)) (bts s) := by
  have h1 := grownCap_ge w s.size 0 5
  have h2 := grownCap_le_maxLen w s.size 0 5 (by unfold maxLen; omega)
  refine ⟨w.heap.size, grownCap w s.size 0 5, _, by rw [bts_len], by rw [bts_len]; exact h1, by unfold maxLen at h2; omega, (fun h => by cases h), ?_⟩
  refine .inr ⟨0, rfl, by rw [Lib.bytesWorld_size]; omega, fun j c hj => ?_⟩
  have hj' := (List.getElem?_eq_some_iff.1 hj).1
  rw [bts_len] at hj'
  rw [Nat.zero_add, Lib.bytesWorld_cell w 5 s j hj']
  unfold bts at hj
  simp [byt, List.getD, hj]
theorem conv_bv_at (w : World) (g : Nat) (hg : g = w.heap.size) (s : ByteArray) (hs : s.size ≤ 1099511627776) : BV (Lib.bytesWorld w 5 s) (.slice (some ⟨g, 0, none⟩) s.size (grownCap w s.size 0 5)) (bts s) := by
  subst hg
  exact conv_bv w s hs
theorem conv_below (w : World) (s : ByteArray) : Below w.heap.size w (Lib.bytesWorld w 5 s) := by
  have hz := Lib.bytesWorld_size w 5 s
  refine ⟨?_, ?_, ?_, by omega, fun k hk => Lib.bytesWorld_at_old w 5 s k hk⟩ <;> rfl
theorem dg_own {w : World} {g : Nat} {l : List UInt8} (h : Dg w g l) (hl : l.length = 32) : Own w (.slice (some ⟨g, 0, none⟩) 32 32) (l.map byt) := by
  refine .inr ⟨g, 32, by rw [List.length_map, hl], ⟨by rw [List.length_map, hl]; exact Nat.le_refl _, by unfold maxLen; omega, (Array.getElem?_eq_some_iff.1 h).1, fun j hj => by rw [h.get j (by omega)]; rfl, fun j => h.free j, fun j u hu => ?_⟩⟩
  rw [List.getElem?_map] at hu
  cases hlj : l[j]? with
  | none => rw [hlj] at hu; cases hu
  | some c =>
    rw [hlj] at hu
    cases hu
    rw [h.get j (List.getElem?_eq_some_iff.1 hlj).1]
    simp [List.getD, hlj]
theorem bv_src {w : World} {v : Value} {l : List UInt8} (h : BV w v l) : Src Tryd.prog 1 34 v l.length (l.map byt) w := by
  obtain ⟨b, cap, p, rfl, h1, h2, h3, h4⟩ := h
  have hone : ∀ u ∈ l.map byt, u.oneCell' = true := fun u hu => by
    obtain ⟨c, _, rfl⟩ := List.mem_map.1 hu
    rfl
  rcases p with _ | a
  · obtain rfl := h3 rfl
    obtain rfl : l = [] := by
      rcases h4 with h4 | ⟨o, e, _⟩
      · exact h4
      · cases e
    exact Src.ofNil w Tryd.underlying34 0
  · refine Src.ofSlice w Tryd.underlying34 a l.length cap (l.map byt) (by simp) (fun j u hu => ?_) hone
    rw [List.getElem?_map] at hu
    cases hlj : l[j]? with
    | none => rw [hlj] at hu; cases hu
    | some c =>
      rw [hlj] at hu
      cases hu
      rcases h4 with rfl | ⟨o, e, _, hc⟩
      · cases hlj
      · obtain rfl : a = ⟨b, o, none⟩ := by simpa using e
        rw [Addr.add_lit]
        exact hc j c hlj
theorem own_bv {w : World} {v : Value} {l : List UInt8} (h : Own w v (l.map byt)) : BV w v l := by
  rcases h with ⟨rfl, hx⟩ | ⟨g, cap, rfl, h⟩
  · obtain rfl := List.map_eq_nil_iff.1 hx
    exact ⟨0, 0, none, rfl, Nat.le_refl _, by omega, fun _ => rfl, .inl rfl⟩
  · have h1 := h.le
    have h2 := h.mx
    unfold maxLen at h2
    rw [List.length_map] at h1 ⊢
    refine ⟨g, cap, _, rfl, h1, by omega, (fun e => by cases e), .inr ⟨0, rfl, h.lt, fun j c hj => ?_⟩⟩
    rw [Nat.zero_add]
    exact h.cells j _ (by rw [List.getElem?_map, hj]; rfl)
/-- append bytes to a slice of bytes of one's own -/
theorem bytes_own {ops : Array Oper} {rest : List Oper} {o : Oper} {a : Act} {w : World} {Q : Exit → Act → World → Prop} (hgd : o.guard = none) (s x : Operand) (ho : o.op = .call { callee := .builtin .append, args := #[s, x], argTypes := #[34, 34] })
    (v xv : Value) (l l' : List UInt8) (hs : a.eval s = v) (hown : Own w v (l.map byt)) (hx : a.eval x = xv) (hb : BV w xv l') (hl : l.length + l'.length ≤ 1099511627776)
    (h : ∀ v' w', Hid (Own w' v' ((l ++ l').map byt)) → w.grownBy w' v.ownBlock → (v'.ownBlock = v.ownBlock ∨ ∃ k, v'.ownBlock = some k ∧ w.heap.size ≤ k) → wpList Tryd.prog ops Q rest (a.put o.dst v') w') : wpList Tryd.prog ops Q (o :: rest) a w := by
  have h5 := info5
  cases hi : Tryd.prog.info? 5 with
  | none => rw [hi] at h5; cases h5
  | some i =>
    rw [hi] at h5
    simp only [Option.map_some, Option.some.injEq, Prod.mk.injEq] at h5
    obtain ⟨s1, s2, s3⟩ := h5
    refine wpList_own hgd s x 34 34 ho 5 i (.int .u8 0) 1 Tryd.underlying34 hi s3 s1 s2 rfl v xv (l.map byt) hs hown l'.length (l'.map byt) hx (bv_src hb) (by rw [List.length_map]; unfold maxLen; omega) (by rw [List.length_map]; omega) ?_
    intro v' w' h1 h2 h3
    exact h v' w' (Lib.hid (by rw [List.map_append]; exact h1)) h2 h3
/-- the hash under a tag -/
def tg (t l : List UInt8) : List UInt8 := sha (sha t ++ l)
theorem tag_start {w w1 : World} {x : Obj} {s : ByteArray} (hb1 : Below (Lib.bytesWorld (w.alloc x) 5 s).heap.size (Lib.bytesWorld (w.alloc x) 5 s) w1) : Below (w.heap.size + 1) (w.alloc x) w1 := by
  have h := conv_below (w.alloc x) s
  rw [World.size_alloc] at h
  exact h.trans (hb1.mono (by rw [Lib.bytesWorld_size, World.size_alloc]; omega))
theorem grown_chg {w w' : World} {g : Nat} {v : Value} (h : w.grownBy w' v.ownBlock) (hv : v.ownBlock = some g) : Chg g w w' :=
  ⟨h.os, h.tape, h.output, h.size, fun k hk hg => h.block k hk (by rw [hv]; simpa using hg)⟩
theorem chg_alloc_below {g : Nat} {w w2 : World} {x : Obj} (h : Chg g (w.alloc x) w2) (hg : g = w.heap.size) : Below w.heap.size w w2 :=
  ⟨h.os, h.tape, h.output, by have := h.size; rw [World.size_alloc] at this; omega, fun k hk => (h.block k (by rw [World.size_alloc]; omega) (by omega)).trans (Below.heap_alloc w x k hk)⟩
theorem tg_len (t l : List UInt8) : (tg t l).length = 32 := sha_len _
def TagR (t l : List UInt8) (w : World) (e : Ending) (w' : World) : Prop := e = .returned (dgv (tg t l)) ∧ Below w.heap.size w w'
set_option maxRecDepth 100000 in
set_option maxHeartbeats 1000000 in
theorem tagged_any (s : ByteArray) (v : Value) (l : List UInt8) (w : World) (hs : s.size ≤ 1000000) (hv : BV w v l) (hl : l.length ≤ 1000000) (hk : KOK w) : Calls Tryd.prog 22 #[.string s, v] w (TagR (bts s) l w) := by
  have HV := Lib.hid hv
  have HK := Lib.hid hk
  obtain ⟨b, cap, p, rfl, _⟩ := hv
  clear hk
  have hcv := fun w1 : World => Lib.run_convert_string_bytes (P := Tryd.prog) w1 9 34 5 s Tryd.underlying9 Tryd.underlying34 Tryd.underlying5
  go_enter Tryd.func22, Tryd.ntmps22
  go_wp2_with fail
  refine (sum_any _ (bts s) _ (conv_bv_at _ _ (by simp) s (by omega)) (by rw [bts_len]; omega) ((HK.out.below (one_new w _)).below (conv_below _ s))).mono ?_
  rintro e w1 ⟨rfl, hb1⟩
  have hbA := tag_start hb1
  have hd1 : Dg w1 w.heap.size (List.replicate 32 0) := (hbA.block w.heap.size (by omega)).trans (zeros32 w)
  have hb2 : Below w.heap.size w w1 := (one_new w _).trans (hbA.mono (by omega))
  have hz1 := hbA.size
  rw [World.size_alloc] at hz1
  have HD1 := Lib.hid hd1
  clear hb1 hbA hcv hd1
  go_wp2_with (first
    | (refine dg_store rfl (.tmp 5) (.tmp 8) rfl w1.heap.size _ _ (zeros32 w1) (by simp) (sha_len _) rfl rfl ?_; rintro w2 hd2 hc2; have hb3 := hb2.trans ((chg_alloc_below hc2 rfl).mono (by omega)); have hz2 := (chg_alloc_below hc2 rfl).size)
    | (refine bytes_own rfl (.tmp 9) (.tmp 10) rfl _ _ (sha (bts s)) l rfl (dg_own hd2.out (sha_len _)) rfl (HV.out.below hb3) (by rw [sha_len]; omega) ?_; rintro v' w3 ho3 hg3 hv3; have hc3 := grown_chg hg3 rfl))
  have hb4 : Below w.heap.size w w3 := Chg.below hb3 hb3.size (by omega) hc3
  have hz3 := hc3.size
  refine (sum_any v' _ w3 (own_bv ho3.out) (by rw [List.length_append, sha_len]; omega) (HK.out.below hb4)).mono ?_
  rintro e w4 ⟨rfl, hb5⟩
  have hd4 : Dg w4 w.heap.size (List.replicate 32 0) := (hb5.block _ (by omega)).trans ((hc3.block _ (by omega) (by omega)).trans (((chg_alloc_below hc2 rfl).block _ (by omega)).trans HD1.out))
  have hb6 : Below w.heap.size w w4 := hb4.trans (hb5.mono (by omega))
  have HD4 := Lib.hid hd4
  clear hb3 hc3 hb4 hb5 hc2 hd4 hg3 hv3 hd2 hz2
  go_wp2_with (refine dg_store rfl (.tmp 4) (.tmp 12) rfl w.heap.size _ _ HD4.out (by simp) (sha_len _) rfl rfl ?_; rintro w5 hd5 hc5)
  exact bodyPost_ret (results_cell_row rfl _ _ w.heap.size 30 _ (0, 0) _ rfl hd5.out Tryd.underlying30 rfl (dg_size (sha_len _))) rfl ⟨rfl, Chg.below hb6 hb6.size (Nat.le_refl _) hc5⟩
end Go.Proofs.YteeabenmfmeooaaDoor
