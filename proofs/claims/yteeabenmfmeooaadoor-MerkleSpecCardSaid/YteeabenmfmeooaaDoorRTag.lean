/-
  Digest, the reference: hashes under a tag, chains.
-/
import Derived.Test.YteeabenmfmeooaaDoorTag
import Derived.Laws.BitsAllLaws
import Derived.Test.YteeabenmfmeooaaDoorRBlock
import Derived.Test.YteeabenmfmeooaaDoorStx
import Derived.Deep.RegionLaw
namespace Go.Proofs.YteeabenmfmeooaaDoor
open Go Go.RowKit
theorem grown_below2 {m : Nat} {w w1 w2 : World} {o : Option Nat} (h : Below m w w1) (hm : m ≤ w1.heap.size) (hg : w1.grownBy w2 o) (ho : ∀ k, o = some k → m ≤ k) : Below m w w2 :=
  ⟨hg.os.trans h.os, hg.tape.trans h.tape, hg.output.trans h.output, Nat.le_trans h.size hg.size, fun k hk => (hg.block k (by omega) (fun e => by have := ho k e.symm; omega)).trans (h.block k hk)⟩
theorem own_from {w : World} {v v' : Value} {m : Nat} (hv : ∀ j, v.ownBlock = some j → m ≤ j) (hm : m ≤ w.heap.size) (h : v'.ownBlock = v.ownBlock ∨ ∃ k, v'.ownBlock = some k ∧ w.heap.size ≤ k) : ∀ j, v'.ownBlock = some j → m ≤ j := fun j e => by
  rcases h with h | ⟨k, h, h'⟩
  · exact hv j (by rw [← h]; exact e)
  · rw [h] at e
    have e' : k = j := Option.some.inj e
    omega
theorem own_nil5 (w : World) : Own (w.alloc (.cells #[] 5)) (.slice (some ⟨w.heap.size, 0, none⟩) 0 0) (([] : List UInt8).map byt) := Own.made w #[] 5 0 (by simp) (by simp)
theorem bv_one (w : World) (c : UInt8) : BV (w.alloc (.cells #[byt c] 5)) (.slice (some ⟨w.heap.size, 0, none⟩) 1 1) [c] :=
  ⟨w.heap.size, 1, _, rfl, Nat.le_refl _, by omega, (fun e => by cases e), .inr ⟨0, rfl, by simp, fun j c' hj => by
    rw [Nat.zero_add, World.cell?_alloc_new]
    rcases j with _ | j
    · simp at hj
      simp [hj]
    · simp at hj⟩⟩
/-- the bytes of the length -/
def lens (m : Nat) (j : Nat) : List UInt8 := (List.range j).map fun t => cb m (7 - t)
theorem lens_len (m j : Nat) : (lens m j).length = j := by simp [lens]
theorem lens_succ (m j : Nat) : lens m (j + 1) = lens m j ++ [cb m (7 - j)] := by simp [lens, List.range_succ]
/-- how many zeros -/
def nz (n : Nat) : Nat := (119 - n % 64) % 64
/-- the padded bytes -/
def rp (l : List UInt8) : List UInt8 := (l ++ [128] ++ List.replicate (nz l.length) 0) ++ lens (l.length * 8) 8
def RPadR (l : List UInt8) (w : World) (e : Ending) (w' : World) : Prop := ∃ v, e = .returned v ∧ Own w' v ((rp l).map byt) ∧ Below w.heap.size w w' ∧ ∀ k, v.ownBlock = some k → w.heap.size ≤ k
set_option maxRecDepth 100000 in
set_option maxHeartbeats 1000000 in
theorem rpad_any (v : Value) (l : List UInt8) (w : World) (hv : BV w v l) (hl : l.length ≤ 1000000) : Calls Tryd.prog 57 #[v] w (RPadR l w) := by
  have HV := Lib.hid hv
  obtain ⟨b, cap, p, rfl, _⟩ := hv
  go_enter Tryd.func57, Tryd.ntmps57
  have B1 := Lib.hid (one_new w (.cells #[] 5))
  go_wp2_with (first
    | (have _ := B2; refine bytes_own rfl (.tmp 8) (.tmp 9) rfl v2 (.slice (some ⟨w2.heap.size, 0, none⟩) 1 1) l [128] rfl (O2.out.alloc _) rfl (bv_one w2 128) (by simp; omega) ?_; rintro v3 w3 O3 hg3 hv3; have hbx := B2.out.trans ((one_new w2 (.cells #[byt 128] 5)).mono B2.out.size); have B3 := Lib.hid (grown_below2 hbx hbx.size hg3 ob2); have ob3 := own_from ob2 hbx.size hv3; clear hg3 hv3 hbx)
    | (refine bytes_own rfl (.tmp 6) (.tmp 7) rfl (.slice (some ⟨w.heap.size, 0, none⟩) 0 0) (.slice p l.length cap) [] l rfl (own_nil5 w) rfl (HV.out.below B1.out) (by simp; omega) ?_; rintro v2 w2 O2 hg2 hv2; have B2 := Lib.hid (grown_below2 B1.out B1.out.size hg2 (fun k e => by cases e; exact Nat.le_refl _)); have ob2 := own_from (v := .slice (some ⟨w.heap.size, 0, none⟩) 0 0) (m := w.heap.size) (fun k e => by cases e; exact Nat.le_refl _) B1.out.size hv2; clear hg2 hv2))
  have hN : l.length ≤ 1000000 := hl
  generalize hn : l.length = n at *
  have hz : nz n < 64 := by unfold nz; omega
  have pre_len : ∀ j, ((l ++ [128] ++ List.replicate j (0 : UInt8)).map byt).length = n + 1 + j := fun j => by simp [hn]; omega
  have pre_suc : ∀ j, l ++ [128] ++ List.replicate j (0 : UInt8) ++ [0] = l ++ [128] ++ List.replicate (j + 1) (0 : UInt8) := fun j => by rw [List.append_assoc, ← List.replicate_succ']
  have PL := Lib.hid pre_len
  have PS := Lib.hid pre_suc
  obtain ⟨g3, c3, rfl, hlt3⟩ := O3.out.form (by simp)
  have O3' : Hid (Own w3 (.slice (some ⟨g3, 0, none⟩) (n + 1) c3) ((l ++ [128] ++ List.replicate 0 (0 : UInt8)).map byt)) := Lib.hid (by have := O3.out; simpa [hn] using this)
  have hg3' : w.heap.size ≤ g3 := ob3 g3 rfl
  have el : ((l ++ [128]).map byt).length = n + 1 := by simp [hn]
  rw [el]
  clear O3 O2 ob2 B2 ob3 pre_len pre_suc B1
  go_wp2_with fail
  go_loopw [3] (fun x wr => ∃ (j g c : Nat), j ≤ nz n ∧ x = .slice (some ⟨g, 0, none⟩) (n + 1 + j) c ∧ Hid (Own wr x ((l ++ [128] ++ List.replicate j (0 : UInt8)).map byt)) ∧ Hid (Below w.heap.size w wr) ∧ Hid (w.heap.size ≤ g)) (fun x _ => 2000000 - (match x with | .slice _ m _ => m | _ => 0))
  case atStart => exact ⟨0, g3, c3, Nat.zero_le _, rfl, O3', B3, Lib.hid hg3'⟩
  case round =>
    clear O3' B3 hg3'
    obtain ⟨j, g, c, hj, rfl, ho, hb, hg⟩ := hrel
    by_cases hlt : j < nz n
    · have c1 : ((((n + 1 + j : Nat) : Int)) % 64 == 56) = false := by unfold nz at hlt; simp; omega
      go_wp2_with (refine bytes_own rfl (.tmp 15) (.tmp 16) rfl (.slice (some ⟨g, 0, none⟩) (n + 1 + j) c) (.slice (some ⟨wr.heap.size, 0, none⟩) 1 1) (l ++ [128] ++ List.replicate j (0 : UInt8)) [0] rfl (ho.out.alloc _) rfl (bv_one wr 0) (by simp [hn]; omega) ?_; rintro v5 w5 O5 hg5 hv5)
      rw [PS.out] at O5
      obtain ⟨g', c', e5, hlt5⟩ := O5.out.form (by rw [PL.out]; omega)
      rw [PL.out] at e5
      have hbx := hb.out.trans ((one_new wr (.cells #[byt 0] 5)).mono hb.out.size)
      have ob5 := own_from (v := .slice (some ⟨g, 0, none⟩) (n + 1 + j) c) (m := w.heap.size) (fun k e => by cases e; exact hg.out) hbx.size hv5
      have hb5 := grown_below2 hbx hbx.size hg5 (fun k e => by cases e; exact hg.out)
      subst e5
      go_roundw
      case rel => exact ⟨j + 1, g', c', by omega, rfl, O5, Lib.hid hb5, Lib.hid (ob5 g' rfl)⟩
      case measure => simp; omega
    · have hj' : j = nz n := by omega
      have c1 : ((((n + 1 + j : Nat) : Int)) % 64 == 56) = true := by unfold nz at hj'; simp; omega
      subst hj'
      have ho' := Lib.hid ho.out
      clear ho
      go_wp2_with fail
      have hb0 : (((n : Int) + 1 + (nz n : Int)) % 64 != 56) = false := by assumption
      rw [hb0]
      go_loopw [3, 5] (fun x i wr' => ∃ (q : Nat), q ≤ 8 ∧ i = .int .i64 ((q : Int) - 1) ∧ Hid (Own wr' x (((l ++ [128] ++ List.replicate (nz n) (0 : UInt8)) ++ lens (n * 8) (8 - q)).map byt)) ∧ Hid (Below w.heap.size w wr') ∧ Hid (∀ k, x.ownBlock = some k → w.heap.size ≤ k)) (fun _ i _ => (intOf i + 1).toNat)
      case atStart => exact ⟨8, Nat.le_refl _, by first | rfl | (simp), Lib.hid (by have := ho'.out; simpa [lens] using this), hb, Lib.hid (fun k e => by cases e; exact hg.out)⟩
      case round =>
        clear ho' hb hg hlt c1
        obtain ⟨q, hq, rfl, ho, hb, hob⟩ := hrel
        by_cases hq0 : 1 ≤ q
        · obtain ⟨r, rfl⟩ : ∃ r, q = r + 1 := ⟨q - 1, by omega⟩
          rw [show (((r + 1 : Nat) : Int) - 1) = (r : Int) by omega]
          have i1 : (0 : Int) ≤ 8 * (r : Int) := by omega
          have i2 : (0 : Int) ≤ (r : Int) := by omega
          have hcb : byt (cb (n * 8) r) = .int .u8 ((n : Int) * 8 / 2 ^ (8 * r) % 256) := by
            unfold byt
            rw [cb_int]
            rfl
          have hbv := bv_one wr (cb (n * 8) r)
          rw [hcb] at hbv
          have HBV := Lib.hid hbv
          have hls := lens_succ (n * 8) (8 - (r + 1))
          rw [show 8 - (r + 1) + 1 = 8 - r by omega, show 7 - (8 - (r + 1)) = r by omega] at hls
          have HLS := Lib.hid hls
          clear hbv hcb hls
          go_wp2_with (refine bytes_own rfl (.tmp 26) (.tmp 32) rfl _ (.slice (some ⟨wr.heap.size, 0, none⟩) 1 1) ((l ++ [128] ++ List.replicate (nz n) (0 : UInt8)) ++ lens (n * 8) (8 - (r + 1))) [cb (n * 8) r] rfl (ho.out.alloc _) rfl HBV.out (by simp [hn, lens_len]; omega) ?_; rintro v6 w6 O6 hg6 hv6)
          rw [List.append_assoc, ← HLS.out] at O6
          have hbx := hb.out.trans ((one_new wr (.cells #[.int .u8 ((n : Int) * 8 / 2 ^ (8 * r) % 256)] 5)).mono hb.out.size)
          have ob6 := own_from hob.out hbx.size hv6
          have hb6 := grown_below2 hbx hbx.size hg6 hob.out
          go_roundw
          case rel => exact ⟨r, by omega, by go_num, O6, Lib.hid hb6, Lib.hid ob6⟩
          case measure => first | (simp [intOf]; done) | (simp [intOf]; omega)
        · obtain rfl : q = 0 := by omega
          go_wp2_with fail
          go_ret
          refine ⟨_, rfl, ?_, hb.out, hob.out⟩
          unfold rp
          rw [hn]
          exact ho.out
end Go.Proofs.YteeabenmfmeooaaDoor
namespace Go.Proofs.YteeabenmfmeooaaDoor
open Go Go.RowKit
theorem padl_eq (l : List UInt8) (n : Nat) (h : l.length < 64) : padl l n = l ++ [128] ++ List.replicate (padsz l.length - l.length - 9) 0 ++ lens (n * 8) 8 := by
  have hz : l.length + 9 ≤ padsz l.length := by unfold padsz; split <;> omega
  have hL : lens (n * 8) 8 = [cb (n * 8) 7, cb (n * 8) 6, cb (n * 8) 5, cb (n * 8) 4, cb (n * 8) 3, cb (n * 8) 2, cb (n * 8) 1, cb (n * 8) 0] := rfl
  rw [hL]
  unfold padl pad1
  generalize padsz l.length = z at *
  simp only [puts]
  apply List.ext_getElem?
  intro i
  have hlen : (l ++ [128] ++ List.replicate (z - l.length - 9) (0 : UInt8)).length = z - 8 := by simp; omega
  by_cases h2 : i < z - 8
  · rw [List.getElem?_append_left (by omega)]
    simp only [List.getElem?_set]
    repeat (rw [if_neg (by omega)])
    by_cases h3 : i = l.length
    · subst h3
      simp
      omega
    · rw [if_neg (by omega)]
      by_cases h1 : i < l.length
      · rw [List.getElem?_append_left h1, List.append_assoc, List.getElem?_append_left h1]
      · rw [List.getElem?_append_right (by omega), List.getElem?_append_right (by simp; omega), List.getElem?_replicate, List.getElem?_replicate, if_pos (by omega), if_pos (by simp; omega)]
  · rw [List.getElem?_append_right (by omega), hlen]
    simp only [List.getElem?_set, List.length_set, List.length_append, List.length_replicate]
    by_cases h4 : i < z
    · obtain ⟨t, rfl⟩ : ∃ t, i = z - 8 + t := ⟨i - (z - 8), by omega⟩
      have ht : t < 8 := by omega
      rw [show z - 8 + t - (z - 8) = t by omega]
      rcases (show t = 0 ∨ t = 1 ∨ t = 2 ∨ t = 3 ∨ t = 4 ∨ t = 5 ∨ t = 6 ∨ t = 7 by omega) with rfl | rfl | rfl | rfl | rfl | rfl | rfl | rfl
      all_goals
        repeat (first | rw [if_neg (by omega)] | rw [if_pos (by omega)])
        rfl
    · repeat (rw [if_neg (by omega)])
      rw [List.getElem?_eq_none (by simp; omega), List.getElem?_eq_none (by simp; omega)]
theorem nz_eq (L N : Nat) (h : N = L % 64) : nz L = padsz N - N - 9 := by
  unfold nz padsz
  split <;> omega
/-- the padded bytes: the whole blocks, and the last ones -/
theorem rp_eq (l : List UInt8) : rp l = l.take (l.length / 64 * 64) ++ padl (l.drop (l.length / 64 * 64)) l.length := by
  have hd : (l.drop (l.length / 64 * 64)).length = l.length % 64 := by rw [List.length_drop]; omega
  rw [padl_eq _ _ (by rw [hd]; omega), hd, ← nz_eq l.length _ rfl]
  unfold rp
  simp only [← List.append_assoc, List.take_append_drop]
theorem wacc_congr {f g : Nat → Int} {m : Nat} (h : ∀ k, k < m → f k = g k) : ∀ t, t ≤ m → wacc f t = wacc g t
  | 0, _ => rfl
  | t + 1, ht => by
    show bits .or .u32 (wacc f t * 2 ^ 8 % 4294967296) (f t) = bits .or .u32 (wacc g t * 2 ^ 8 % 4294967296) (g t)
    rw [wacc_congr h t (by omega), h t (by omega)]
/-- the schedule looks at 64 bytes alone -/
theorem sched_congr {f g : Nat → Int} (h : ∀ k, k < 64 → f k = g k) : ∀ t, t ≤ 64 → sched f t = sched g t
  | 0, _ => rfl
  | t + 1, ht => by
    have ih := sched_congr h t (by omega)
    have hw : wacc (fun k => f (t * 4 + k)) 4 = wacc (fun k => g (t * 4 + k)) 4 ∨ ¬ t < 16 := by
      by_cases h16 : t < 16
      · refine .inl (wacc_congr ?_ 4 (Nat.le_refl _))
        intro k hk
        exact h _ (by omega)
      · exact .inr h16
    show sched f t ++ [if t < 16 then wacc (fun k => f (t * 4 + k)) 4 else nextw (sched f t)] = sched g t ++ [if t < 16 then wacc (fun k => g (t * 4 + k)) 4 else nextw (sched g t)]
    rw [ih]
    rcases hw with hw | hw
    · rw [hw]
    · rw [if_neg hw, if_neg hw]
theorem ab_congr {f g : Nat → Int} (h : ∀ k, k < 64 → f k = g k) (s : R8) : ab f s = ab g s := by
  unfold ab
  rw [sched_congr h 64 (Nat.le_refl _)]
theorem feed_take (a l : List UInt8) (s : R8) (q : Nat) (h : ∀ j, j < 64 * q → a.getD j 0 = l.getD j 0) : ∀ i, i ≤ q → feed a s i = feed l s i
  | 0, _ => rfl
  | i + 1, hi => by
    simp only [feed]
    rw [feed_take a l s q h i (by omega)]
    exact ab_congr (fun k hk => by unfold fb; rw [h _ (by omega)]) _
theorem feed_drop (a b : List UInt8) (s : R8) (q : Nat) (h : ∀ j, a.getD (64 * q + j) 0 = b.getD j 0) : ∀ r, feed a s (q + r) = feed b (feed a s q) r
  | 0 => rfl
  | r + 1 => by
    show feed a s ((q + r) + 1) = _
    simp only [feed]
    rw [feed_drop a b s q h r]
    exact ab_congr (fun k _ => by unfold fb; rw [← h, show 64 * (q + r) + k = 64 * q + (64 * r + k) by omega]) _
/-- the hash by the reference's padded bytes -/
theorem sha_rp (l : List UInt8) : sha l = digof (feed (rp l) iv ((rp l).length / 64)) := by
  have hq : 64 * (l.length / 64) ≤ l.length := by omega
  have ht : (l.take (l.length / 64 * 64)).length = 64 * (l.length / 64) := by rw [List.length_take]; omega
  have h1 := feed_take (rp l) l iv (l.length / 64) (fun j hj => by
    rw [rp_eq, List.getD_eq_getElem?_getD, List.getD_eq_getElem?_getD, List.getElem?_append_left (by omega), List.getElem?_take, if_pos (by omega)]) (l.length / 64) (Nat.le_refl _)
  have h2 := feed_drop (rp l) (padl (l.drop (l.length / 64 * 64)) l.length) iv (l.length / 64) (fun j => by
    rw [rp_eq, List.getD_eq_getElem?_getD, List.getD_eq_getElem?_getD, List.getElem?_append_right (by omega), ht, show 64 * (l.length / 64) + j - 64 * (l.length / 64) = j by omega])
  have h3 : (rp l).length / 64 = l.length / 64 + (padl (l.drop (l.length / 64 * 64)) l.length).length / 64 := by
    rw [rp_eq, List.length_append, ht]
    omega
  rw [h3, h2, h1]
  rfl
end Go.Proofs.YteeabenmfmeooaaDoor
namespace Go.Proofs.YteeabenmfmeooaaDoor
open Go Go.RowKit
theorem rp_mod (l : List UInt8) : (rp l).length % 64 = 0 := by
  unfold rp
  simp only [List.length_append, List.length_replicate, List.length_cons, List.length_nil, lens_len]
  unfold nz
  omega
theorem rp_le (l : List UInt8) : (rp l).length ≤ l.length + 128 := by
  unfold rp
  simp only [List.length_append, List.length_replicate, List.length_cons, List.length_nil, lens_len]
  unfold nz
  omega
theorem s6_run {w : World} {g : Nat} {s0 : R8} (hl : S6 w g s0) (s : R8) : Sem.run Tryd.prog (storeCells ⟨g, 0, none⟩ (cells8 s).toList) w = .ok () (w.setRow g (cells8 s)) := by
  have h := run_storeCells_from (P := Tryd.prog) g 73 (cells8 s).toList 0 (cells8 s0) w hl (by rfl) (fun v hv => by
    simp [cells8] at hv
    rcases hv with rfl | rfl | rfl | rfl | rfl | rfl | rfl | rfl <;> rfl)
  simpa [cells8] using h
set_option maxRecDepth 100000 in
set_option maxHeartbeats 2000000 in
theorem rsum_any (v : Value) (l : List UInt8) (w : World) (hv : BV w v l) (hl : l.length ≤ 1000000) : Calls Tryd.prog 44 #[v] w (ShaR l w) := by
  have HV := Lib.hid hv
  have h1 : S6 ((w.alloc (.cells ((List.replicate 32 (0 : UInt8)).map byt).toArray 30)).alloc (.cells (cells8 zero8) 73)) (w.heap.size + 1) zero8 := by
    have := heap_alloc_new (w.alloc (.cells ((List.replicate 32 (0 : UInt8)).map byt).toArray 30)) (.cells (cells8 zero8) 73)
    rw [World.size_alloc] at this
    exact this
  have H1 := Lib.hid h1
  have hd1 : Dg ((w.alloc (.cells ((List.replicate 32 (0 : UInt8)).map byt).toArray 30)).alloc (.cells (cells8 zero8) 73)) w.heap.size (List.replicate 32 0) := (zeros32 w).below (one_new _ _)
  have hb1 : Below w.heap.size w ((w.alloc (.cells ((List.replicate 32 (0 : UInt8)).map byt).toArray 30)).alloc (.cells (cells8 zero8) 73)) := ((Below.refl _ _).alloc (Nat.le_refl _) _).alloc (by simp) _
  have hz1 : ((w.alloc (.cells ((List.replicate 32 (0 : UInt8)).map byt).toArray 30)).alloc (.cells (cells8 zero8) 73)).heap.size = w.heap.size + 2 := by simp
  have HD1 := Lib.hid hd1
  have HB1 := Lib.hid hb1
  have HZ1 := Lib.hid hz1
  clear h1 hd1 hb1 hz1 hv
  go_enter Tryd.func44, Tryd.ntmps44
  go_wp2_with (refine s6_store rfl (.tmp 3) (.tmp 8) rfl (w.heap.size + 1) zero8 iv H1.out rfl rfl ?_; rintro w2 hs2 hc2)
  have hd2 : Dg w2 w.heap.size (List.replicate 32 0) := (hc2.block _ (Nat.lt_of_lt_of_eq (by omega) HZ1.out.symm) (by omega)).trans HD1.out
  have hb2 := Chg.below HB1.out HB1.out.size (Nat.le_succ _) hc2
  have hz2 := Nat.le_trans (Nat.le_of_eq HZ1.out.symm) hc2.size
  clear hc2 H1 HD1 HB1 HZ1
  refine (rpad_any v l w2 (HV.out.below hb2) hl).mono ?_
  rintro e w3 ⟨vp, rfl, hop, hb3, hob⟩
  have hs3 := hs2.below hb3
  have hd3 := hd2.below hb3
  have hb3' := hb2.trans (hb3.mono hb2.size)
  have hz3 := hb3.size
  have hpm := rp_mod l
  have hpl := rp_le l
  have hpos : 0 < ((rp l).map byt).length := by rw [List.length_map]; unfold rp; simp only [List.length_append, lens_len]; omega
  obtain ⟨gp, cp, rfl, hgp⟩ := hop.form hpos
  have hgp2 := hob gp rfl
  have hbv := own_bv hop
  rw [List.length_map] at hbv ⊢
  have hbc : ∀ (j : Nat) (c : UInt8), (rp l)[j]? = some c → w3.cell? ⟨gp, j, none⟩ = some (byt c) := fun j c hj => by
    obtain ⟨b', cap', p', e', _, _, _, h4⟩ := hbv
    cases e'
    rcases h4 with h4 | ⟨o', e'', _, h5⟩
    · rw [h4] at hj; cases hj
    · cases e''
      have := h5 j c hj
      rwa [Nat.zero_add] at this
  have hcap : (rp l).length ≤ cp ∧ cp ≤ 9223372036854775807 := by
    obtain ⟨b', cap', p', e', h1, h2, _⟩ := hbv
    cases e'
    exact ⟨h1, h2⟩
  have hsh := sha_rp l
  have hfb : ∀ i k, 0 ≤ fb (rp l) i k ∧ fb (rp l) i k < 256 := fun i k => fb_lt (rp l) i k
  have hfc : ∀ i k, k < 64 → 64 * i + 64 ≤ (rp l).length → w3.cell? ⟨gp, 64 * i + k, none⟩ = some (.int .u8 (fb (rp l) i k)) := fun i k hk hi => by
    have hlt : 64 * i + k < (rp l).length := by omega
    rw [hbc _ _ (List.getElem?_eq_getElem hlt)]
    simp [byt, fb, List.getD, List.getElem?_eq_getElem hlt]
  have HF := Lib.hid hfc
  have HFB := Lib.hid hfb
  have HSH := Lib.hid hsh
  have HCAP := Lib.hid hcap
  generalize rp l = P at *
  generalize hM : P.length = M at *
  clear hop hob hbv hbc hfc hfb hsh HV hpos hb3 hd2 hs2 hb2
  go_wp2_with fail
  go_loopw [5] (fun i wr => ∃ k : Nat, k ≤ M / 64 ∧ i = .int .i64 ((64 * k : Nat) : Int) ∧ Hid (S6 wr (w.heap.size + 1) (feed P iv k)) ∧ Hid (Chg (w.heap.size + 1) w3 wr)) (fun i _ => M - (intOf i).toNat)
  case atStart => exact ⟨0, Nat.zero_le _, rfl, Lib.hid hs3, Lib.hid (Chg.refl _ _)⟩
  case round =>
    clear hs3
    obtain ⟨k, hk, rfl, hs, hc⟩ := hrel
    by_cases hlt : k < M / 64
    · have c1 : decide (((64 * k : Nat) : Int) < (M : Int)) = true := by simp; omega
      have hcap := HCAP.out
      have hbl := rblock_any gp (64 * k) (fb P k) (feed P iv k) (cp - 64 * k) wr.drew (by omega) (by omega) (HFB.out k) (Nat.lt_of_lt_of_le hgp hc.out.size) (fun j hj => by
        have h9 : wr.drew.cell? ⟨gp, 64 * k + j, none⟩ = wr.cell? ⟨gp, 64 * k + j, none⟩ := rfl
        rw [h9, hc.out.cell hgp (by omega)]
        exact HF.out k j hj (by omega))
      obtain ⟨X, hX⟩ : ∃ X, X = ab (fb P k) (feed P iv k) := ⟨_, rfl⟩
      have hbl2 : Calls Tryd.prog 58 #[.agg (cells8 (feed P iv k)), .slice (some ⟨gp, 64 * k, none⟩) 64 (cp - 64 * k)] wr.drew (fun e w' => e = .returned (.agg (cells8 X)) ∧ Below wr.drew.heap.size wr.drew w') := by
        rw [hX]
        exact hbl
      have HBL := Lib.hid hbl2
      have s0 := hs.out.cell (k := 0) (by decide)
      have s1 := hs.out.cell (k := 1) (by decide)
      have s2 := hs.out.cell (k := 2) (by decide)
      have s3 := hs.out.cell (k := 3) (by decide)
      have s4 := hs.out.cell (k := 4) (by decide)
      have s5 := hs.out.cell (k := 5) (by decide)
      have s6 := hs.out.cell (k := 6) (by decide)
      have s7 := hs.out.cell (k := 7) (by decide)
      simp only [nth8] at s0 s1 s2 s3 s4 s5 s6 s7
      have hfd : feed P iv (k + 1) = X := by rw [hX]; rfl
      have HFD := Lib.hid hfd
      clear hbl hbl2 hfd hX
      generalize feed P iv k = s at *
      have hnk0 : 64 * k + 64 ≤ M := by omega
      have hnk1 : 64 * k % 64 = 0 := by omega
      generalize hnk : 64 * k = nk at *
      have e64 : IntKind.i64.wrap ((nk : Int) + 64) = (nk : Int) + 64 := IntWalk.i64_in _ (by omega)
      have f1 : (0 : Int) ≤ (nk : Int) + 64 := by omega
      have f2 : (nk : Int) + 64 ≤ (cp : Int) := by omega
      have f3 : ((nk : Int) + 64).toNat = nk + 64 := by omega
      have hne : ¬ cp = nk := by omega
      have hne2 : nk ≤ nk + 64 := by omega
      have HNK := Lib.hid hnk
      clear hnk
      go_wp2_with fail
      have hS0 : Hid (S6 wr.drew (w.heap.size + 1) s) := Lib.hid hs.out
      have hC0 : Hid (Chg (w.heap.size + 1) w3 wr.drew) := Lib.hid ⟨hc.out.os, hc.out.tape, hc.out.output, hc.out.size, hc.out.block⟩
      clear hs hc
      go_region_law (first
        | (go_simp; go_at_call 58; (try rw [show nk + 64 - nk = 64 by omega]); refine HBL.out.mono ?_; rintro e w5 ⟨rfl, hb5⟩
           have hS5 := hS0.out.below hb5
           have hC5 := Lib.hid (hC0.out.trans (Chg.of_below hb5))
           have hst := s6_run hS5 X
           have hsz : (cells8 X).size = 8 := rfl))
      have hs6 : S6 (w5.setRow (w.heap.size + 1) (cells8 X)) (w.heap.size + 1) X := setRow_heap _ _ _ _ _ _ hS5
      have hc6 := chg_row w5 (w.heap.size + 1) (cells8 X)
      go_wp2_with fail
      go_roundw
      case rel => exact ⟨k + 1, by omega, by have := HNK.out; go_num, Lib.hid (by rw [HFD.out]; exact hs6), Lib.hid (hC5.out.trans hc6)⟩
      case measure => simp [intOf]; have := HNK.out; omega
    · have hkm : k = M / 64 := by omega
      have c1 : decide (((64 * k : Nat) : Int) < (M : Int)) = false := by simp; omega
      rw [hkm] at hs
      have hS := Lib.hid hs.out
      clear hs
      generalize feed P iv (M / 64) = sF at *
      have hz0 : Hid (Dg (wr.alloc (.cells ((List.replicate 32 (0 : UInt8)).map byt).toArray 30)) wr.heap.size (List.replicate 32 0)) := Lib.hid (zeros32 wr)
      go_wp2_with (refine dg_store rfl (.tmp 6) (.tmp 24) rfl wr.heap.size (List.replicate 32 0) (List.replicate 32 0) hz0.out (by simp) (by simp) rfl rfl ?_; rintro w4 hd4 hc4)
      have hcb : Below wr.heap.size wr w4 := Chg.below (one_new wr _) (one_new wr _).size (Nat.le_refl _) hc4
      have hS4 := Lib.hid (hS.out.below hcb)
      have hD4 : Hid (Dg w4 w.heap.size (List.replicate 32 0)) := Lib.hid (Dg.below (w := wr) ((hc.out.block _ (by omega) (by omega)).trans hd3) hcb)
      have hB4 := Lib.hid ((Chg.below hb3' hb3'.size (Nat.le_succ _) hc.out).trans (hcb.mono (Nat.le_trans hb3'.size hc.out.size)))
      have hsz := hc.out.size
      clear hcb hc hd3 hb3' hz0 hS hc4
      generalize wr.heap.size = g6 at *
      go_wp2_with fail
      go_loopw [7] (fun i wr' => ∃ k : Nat, k ≤ 32 ∧ i = .int .i64 (k : Int) ∧ Hid (Dg wr' g6 (part32 sF k)) ∧ Hid (Chg g6 w4 wr')) (fun i _ => 32 - (intOf i).toNat)
      case atStart => exact ⟨0, Nat.zero_le _, rfl, Lib.hid hd4.out, Lib.hid (Chg.refl _ _)⟩
      case round =>
        clear hlt hk c1 hkm
        obtain ⟨k, hk, rfl, hd, hc⟩ := hrel
        by_cases hlt : k < 32
        · have hst : S6 wr (w.heap.size + 1) sF := hS4.out.chg hc.out (by omega)
          have c1 := hst.cell (show k / 4 < 8 by omega)
          have c2 := hd.out.get k (by rw [part_len sF hk]; exact hlt)
          have f2 := hd.out.free k
          have r2 := hd.out.set k (sb sF k)
          rw [part_set sF hlt] at r2
          have HR := Lib.hid r2
          have hsb : byt (sb sF k) = .int .u8 (nth8 sF (k / 4) / 2 ^ (8 * (3 - k % 4)) % 256) := u8i_byt _
          have HBy := Lib.hid hsb
          unfold byt at c2
          have HC := Lib.hid hc.out
          clear hst hd r2 hsb hc
          have b1 : (k : Int) < 32 := by omega
          go_wp2_with fail
          go_roundw
          case rel => exact ⟨k + 1, by omega, by go_num, Lib.hid (by rw [show 24 - 8 * (k % 4) = 8 * (3 - k % 4) by omega, ← HBy.out]; exact HR.out), Lib.hid (HC.out.set (.inl rfl) _)⟩
          case measure => simp [intOf]; omega
        · have hd32 : Dg wr g6 (digof sF) := by
            have e : k = 32 := by omega
            have := hd.out
            rw [e, part_full] at this
            exact this
          have HR := Lib.hid hd32
          have hD5 : Hid (Dg wr w.heap.size (List.replicate 32 0)) := Lib.hid ((hc.out.block _ (Array.getElem?_eq_some_iff.1 hD4.out).1 (by omega)).trans hD4.out)
          have hB5 := Lib.hid (Chg.below hB4.out hB4.out.size (by omega) hc.out)
          clear hd hd32
          go_wp2_with (first
            | (refine dg_load rfl (.tmp 6) rfl g6 _ HR.out (digof_len sF) rfl ?_)
            | (refine dg_store rfl (.tmp 2) (.tmp 41) rfl w.heap.size _ _ hD5.out (by simp) (digof_len sF) rfl rfl ?_; rintro w6 hd6 hc6))
          rw [← HSH.out] at hd6
          exact bodyPost_ret (results_cell_row rfl _ _ w.heap.size 30 _ (0, 0) _ rfl hd6.out Tryd.underlying30 rfl (dg_size (sha_len _))) rfl ⟨rfl, Chg.below hB5.out hB5.out.size (Nat.le_refl _) hc6⟩
end Go.Proofs.YteeabenmfmeooaaDoor
namespace Go.Proofs.YteeabenmfmeooaaDoor
open Go Go.RowKit
theorem keep_dg {w1 w2 : World} {o : Option Nat} {g : Nat} {l : List UInt8} (hd : Dg w1 g l) (hg : w1.grownBy w2 o) (hne : ∀ k, o = some k → g ≠ k) : Dg w2 g l :=
  (hg.block g (Array.getElem?_eq_some_iff.1 hd).1 (fun e => hne g e.symm rfl)).trans hd
set_option maxRecDepth 100000 in
set_option maxHeartbeats 1000000 in
theorem rtagged_any (s : ByteArray) (v : Value) (l : List UInt8) (w : World) (hs : s.size ≤ 900000) (hv : BV w v l) (hl : l.length ≤ 900000) : Calls Tryd.prog 28 #[.string s, v] w (TagR (bts s) l w) := by
  have HV := Lib.hid hv
  obtain ⟨b, cap, p, rfl, _⟩ := hv
  have hcv := fun w1 : World => Lib.run_convert_string_bytes (P := Tryd.prog) w1 9 34 5 s Tryd.underlying9 Tryd.underlying34 Tryd.underlying5
  go_enter Tryd.func28, Tryd.ntmps28
  go_wp2_with fail
  refine (rsum_any _ (bts s) _ (conv_bv_at _ _ (by simp) s (by omega)) (by rw [bts_len]; omega)).mono ?_
  rintro e w1 ⟨rfl, hb1⟩
  have hbA := tag_start hb1
  have hd1 : Dg w1 w.heap.size (List.replicate 32 0) := (hbA.block w.heap.size (by omega)).trans (zeros32 w)
  have hb2 : Below w.heap.size w w1 := (one_new w _).trans (hbA.mono (by omega))
  have hz1 := hbA.size
  rw [World.size_alloc] at hz1
  have HD1 := Lib.hid hd1
  have HB2 := Lib.hid hb2
  clear hb1 hbA hcv hd1 hb2
  go_wp2_with (first
    | (have _ := HB5; refine bytes_own rfl (.tmp 11) (.tmp 12) rfl v5 (.slice p l.length cap) (sha (bts s)) l rfl ho5.out rfl (HV.out.below HB5.out) (by rw [sha_len]; omega) ?_; rintro v6 w6 ho6 hg6 hv6; have HB6 := Lib.hid (grown_below2 HB5.out HB5.out.size hg6 hv5); have HR6 := Lib.hid (keep_dg HR5.out hg6 (fun k e => by have := hv7 k e; omega)); clear hg6 hv6)
    | (have _ := hb3; refine bytes_own rfl (.tmp 9) (.tmp 10) rfl (.slice (some ⟨w2.heap.size, 0, none⟩) 0 0) (.slice (some ⟨w1.heap.size, 0, none⟩) 32 32) [] (sha (bts s)) rfl (own_nil5 w2) rfl (dg_bv (hd2.out.below (one_new w2 _)) (sha_len _)) (by rw [sha_len]; simp) ?_; rintro v5 w5 ho5 hg5 hv5'
       have hbx := hb3.out.trans ((one_new w2 (.cells #[] 5)).mono hb3.out.size)
       have hz2 := (one_new w2 (.cells #[] 5)).size
       have HB5 := Lib.hid (grown_below2 hbx hbx.size hg5 (fun k e => by cases e; exact hb3.out.size))
       have hv5 := own_from (v := .slice (some ⟨w2.heap.size, 0, none⟩) 0 0) (m := w.heap.size) (fun k e => by cases e; exact hb3.out.size) hbx.size hv5'
       have hv7 : ∀ k, v5.ownBlock = some k → w.heap.size + 1 ≤ k := own_from (v := .slice (some ⟨w2.heap.size, 0, none⟩) 0 0) (m := w.heap.size + 1) (fun k e => by cases e; exact hs3) (Nat.le_trans hs3 hz2) hv5'
       have HR5 := Lib.hid (keep_dg (HR2.out.below (one_new w2 _)) hg5 (fun k e => by cases e; show _ ≠ w2.heap.size; omega))
       clear hg5 hv5' hbx)
    | (refine dg_store rfl (.tmp 5) (.tmp 8) rfl w1.heap.size _ _ (zeros32 w1) (by simp) (sha_len _) rfl rfl ?_; rintro w2 hd2 hc2; have hbw := chg_alloc_below hc2 rfl; have hb3 := Lib.hid (HB2.out.trans (hbw.mono HB2.out.size)); have HR2 := Lib.hid (HD1.out.below hbw); have hs3 : w.heap.size + 1 ≤ w2.heap.size := Nat.le_trans hz1 hbw.size; clear hc2 hbw))
  refine (rsum_any v6 _ w6 (own_bv ho6.out) (by rw [List.length_append, sha_len]; omega)).mono ?_
  rintro e w7 ⟨rfl, hb7⟩
  have HR7 := Lib.hid (HR6.out.below hb7)
  have HB7 := Lib.hid (HB6.out.trans (hb7.mono HB6.out.size))
  clear hb7
  go_wp2_with (refine dg_store rfl (.tmp 4) (.tmp 14) rfl w.heap.size _ _ HR7.out (by simp) (sha_len _) rfl rfl ?_; rintro w8 hd8 hc8)
  exact bodyPost_ret (results_cell_row rfl _ _ w.heap.size 30 _ (0, 0) _ rfl hd8.out Tryd.underlying30 rfl (dg_size (sha_len _))) rfl ⟨rfl, Chg.below HB7.out HB7.out.size (Nat.le_refl _) hc8⟩
end Go.Proofs.YteeabenmfmeooaaDoor
