/-
  Disks: Write.
-/
import Derived.Test.YtanmhjbeookfiaaConc
import Derived.Test.YtanmhjbeookfiaaStop
import Derived.Deep.RegionHeld3
namespace Go.Proofs.Ytanmhjbeookfiaa
open Go Go.RowKit
def writeE (d : D) (a : Int) (l : List UInt8) : Int := if runsB d = true ∧ inB d.s.length a = true then (if 128 < l.length then 1 else if d.p.length = 4096 then 2 else 0) else 40
def writeD (d : D) (a : Int) (l : List UInt8) : D := if writeE d a l = 0 then ⟨d.s, d.p ++ [(a, fill l)], d.left, d.st⟩ else zero
set_option maxHeartbeats 2000000 in
theorem write_out (v : Value) (d : D) (a : Int) (bv : Value) (l : List UInt8) (w : World) (h : DV w v d) (hb : BV w bv l) (hr : runsB d = true) (hi : inB d.s.length a = false) : Calls Try.prog 19 #[v, .int .i64 a, bv] w (RetD zero 40 w) := by
  obtain ⟨ps, N, cs, pp, M, cp, rfl, HO, hs1, hs2, hp1, hp2⟩ := h.op
  clear h
  have HR : Hid (∀ w', Below w.heap.size w w' → Calls Try.prog 31 #[dval d ps N cs pp M cp] w' (Ret (.bool true) w')) := Lib.hid fun w' hb => by
    have := runs_any _ d w' (HO.out.below hb).dv
    rwa [hr] at this
  have HI : Hid (∀ w', Below w.heap.size w w' → Calls Try.prog 32 #[dval d ps N cs pp M cp, .int .i64 a] w' (Ret (.bool false) w')) := Lib.hid fun w' hb => by
    have := within_any _ d a w' (HO.out.below hb).dv
    rwa [hi] at this
  clear hr hi hb
  go_enter Try.func19, Try.ntmps19
  go_wp2_with (first
    | (go_at_call 31; refine (HR.out _ (two_below _ _ _)).mono ?_; rintro e w1 ⟨rfl, hb1⟩; obtain ⟨⟨c0, c1, c2, c3⟩, r, f, hz1⟩ := boxedR (by simp) hb1; have HB := Lib.hid (two_later hb1); have HB0 := Lib.hid hb1; clear hb1)
    | (go_at_call 32; refine (HI.out _ HB.out).mono ?_; rintro e w2 ⟨rfl, hb2⟩; have hb3 := HB0.out.trans (hb2.mono HB0.out.size); clear c0 c1 c2 c3 r f hz1 HB HB0 hb2; obtain ⟨⟨c0, c1, c2, c3⟩, r, f, hz1⟩ := boxedR (by simp) hb3; have HB := Lib.hid (two_later hb3); clear hb3)
    | (refine dk_store rfl (.tmp 6) (.tmp 17) rfl (w.heap.size + 1) _ _ _ _ _ r.out rfl rfl rfl ⟨rfl, rfl, rfl, rfl⟩ ?_; rintro w2 r2 hc2))
  exact bodyPost_ret (results_dk rfl _ _ _ _ _ _ _ _ rfl rfl r2.out) rfl ⟨_, rfl, zero_DV _, Chg.below HB.out HB.out.size (by omega) hc2⟩
set_option maxHeartbeats 2000000 in
theorem write_long (v : Value) (d : D) (a : Int) (bv : Value) (l : List UInt8) (w : World) (h : DV w v d) (hb : BV w bv l) (hr : runsB d = true) (hi : inB d.s.length a = true) (hl : 128 < l.length) : Calls Try.prog 19 #[v, .int .i64 a, bv] w (RetD zero 1 w) := by
  obtain ⟨ps, N, cs, pp, M, cp, rfl, HO, hs1, hs2, hp1, hp2⟩ := h.op
  clear h
  have HR : Hid (∀ w', Below w.heap.size w w' → Calls Try.prog 31 #[dval d ps N cs pp M cp] w' (Ret (.bool true) w')) := Lib.hid fun w' hb => by
    have := runs_any _ d w' (HO.out.below hb).dv
    rwa [hr] at this
  have HI : Hid (∀ w', Below w.heap.size w w' → Calls Try.prog 32 #[dval d ps N cs pp M cp, .int .i64 a] w' (Ret (.bool true) w')) := Lib.hid fun w' hb => by
    have := within_any _ d a w' (HO.out.below hb).dv
    rwa [hi] at this
  obtain ⟨pb, cb, rfl, hl1, hl2⟩ := hb.shape
  have HBV := Lib.hid hb
  have c9 : (128 : Int) < (l.length : Int) := by omega
  clear hr hi hb
  go_enter Try.func19, Try.ntmps19
  go_wp2_with (first
    | (go_at_call 31; refine (HR.out _ (two_below _ _ _)).mono ?_; rintro e w1 ⟨rfl, hb1⟩; obtain ⟨⟨c0, c1, c2, c3⟩, r, f, hz1⟩ := boxedR (by simp) hb1; have HB := Lib.hid (two_later hb1); have HB0 := Lib.hid hb1; clear hb1)
    | (go_at_call 32; refine (HI.out _ HB.out).mono ?_; rintro e w2 ⟨rfl, hb2⟩; have hb3 := HB0.out.trans (hb2.mono HB0.out.size); clear c0 c1 c2 c3 r f hz1 HB HB0 hb2; obtain ⟨⟨c0, c1, c2, c3⟩, r, f, hz1⟩ := boxedR (by simp) hb3; have HB := Lib.hid (two_later hb3); have HB0 := Lib.hid hb3; clear hb3)
    | (refine dk_store rfl (.tmp 6) (.tmp 21) rfl (w.heap.size + 1) _ _ _ _ _ r.out rfl rfl rfl ⟨rfl, rfl, rfl, rfl⟩ ?_; rintro w2 r2 hc2))
  exact bodyPost_ret (results_dk rfl _ _ _ _ _ _ _ _ rfl rfl r2.out) rfl ⟨_, rfl, zero_DV _, Chg.below HB.out HB.out.size (by omega) hc2⟩
set_option maxHeartbeats 2000000 in
theorem write_many (v : Value) (d : D) (a : Int) (bv : Value) (l : List UInt8) (w : World) (h : DV w v d) (hb : BV w bv l) (hr : runsB d = true) (hi : inB d.s.length a = true) (hl : ¬ 128 < l.length) (hm : d.p.length = 4096) : Calls Try.prog 19 #[v, .int .i64 a, bv] w (RetD zero 2 w) := by
  obtain ⟨ps, N, cs, pp, M, cp, rfl, HO, hs1, hs2, hp1, hp2⟩ := h.op
  clear h
  have HR : Hid (∀ w', Below w.heap.size w w' → Calls Try.prog 31 #[dval d ps N cs pp M cp] w' (Ret (.bool true) w')) := Lib.hid fun w' hb => by
    have := runs_any _ d w' (HO.out.below hb).dv
    rwa [hr] at this
  have HI : Hid (∀ w', Below w.heap.size w w' → Calls Try.prog 32 #[dval d ps N cs pp M cp, .int .i64 a] w' (Ret (.bool true) w')) := Lib.hid fun w' hb => by
    have := within_any _ d a w' (HO.out.below hb).dv
    rwa [hi] at this
  obtain ⟨pb, cb, rfl, hl1, hl2⟩ := hb.shape
  have HBV := Lib.hid hb
  have c9 : ¬ (128 : Int) < (l.length : Int) := by omega
  obtain rfl : M = 4096 := by have := HO.out.m; omega
  clear hr hi hb
  go_enter Try.func19, Try.ntmps19
  go_wp2_with (first
    | (go_at_call 31; refine (HR.out _ (two_below _ _ _)).mono ?_; rintro e w1 ⟨rfl, hb1⟩; obtain ⟨⟨c0, c1, c2, c3⟩, r, f, hz1⟩ := boxedR (by simp) hb1; have HB := Lib.hid (two_later hb1); have HB0 := Lib.hid hb1; clear hb1)
    | (go_at_call 32; refine (HI.out _ HB.out).mono ?_; rintro e w2 ⟨rfl, hb2⟩; have hb3 := HB0.out.trans (hb2.mono HB0.out.size); clear c0 c1 c2 c3 r f hz1 HB HB0 hb2; obtain ⟨⟨c0, c1, c2, c3⟩, r, f, hz1⟩ := boxedR (by simp) hb3; have HB := Lib.hid (two_later hb3); have HB0 := Lib.hid hb3; clear hb3)
    | (refine dk_store rfl (.tmp 6) (.tmp 26) rfl (w.heap.size + 1) _ _ _ _ _ r.out rfl rfl rfl ⟨rfl, rfl, rfl, rfl⟩ ?_; rintro w2 r2 hc2))
  exact bodyPost_ret (results_dk rfl _ _ _ _ _ _ _ _ rfl rfl r2.out) rfl ⟨_, rfl, zero_DV _, Chg.below HB.out HB.out.size (by omega) hc2⟩
theorem drew_bel {m : Nat} {w0 w : World} (h : Below m w0 w) : Below m w0 w.drew := ⟨h.os, h.tape, h.output, h.size, h.block⟩
theorem twoCells (w : World) (x y c d : Value) (T T' : TypeId) : ((w.alloc (.cells #[x, y] T)).alloc (.cells #[c, d] T')).cell? ⟨w.heap.size + 1, 0, none⟩ = some c ∧ ((w.alloc (.cells #[x, y] T)).alloc (.cells #[c, d] T')).cell? ⟨w.heap.size + 1, 1, none⟩ = some d ∧
    ((w.alloc (.cells #[x, y] T)).alloc (.cells #[c, d] T')).cell? ⟨w.heap.size, 0, none⟩ = some x ∧ ((w.alloc (.cells #[x, y] T)).alloc (.cells #[c, d] T')).cell? ⟨w.heap.size, 1, none⟩ = some y := by
  have h1 : ((w.alloc (.cells #[x, y] T)).alloc (.cells #[c, d] T')).heap[w.heap.size + 1]? = some (.cells #[c, d] T') := by
    have := heap_alloc_new (w.alloc (.cells #[x, y] T)) (.cells #[c, d] T')
    rwa [World.size_alloc] at this
  have h2 : ((w.alloc (.cells #[x, y] T)).alloc (.cells #[c, d] T')).heap[w.heap.size]? = some (.cells #[x, y] T) :=
    (heap_alloc_old (w.alloc (.cells #[x, y] T)) _ (by simp)).trans (heap_alloc_new w _)
  exact ⟨by unfold World.cell?; simp only [h1]; rfl, by unfold World.cell?; simp only [h1]; rfl, by unfold World.cell?; simp only [h2]; rfl, by unfold World.cell?; simp only [h2]; rfl⟩
/-- a list of one write -/
theorem oneWL {w : World} {b : Nat} {x : Int} {u : Value} (h0 : w.cell? ⟨b, 0, none⟩ = some (.int .i64 x)) (h1 : w.cell? ⟨b, 1, none⟩ = some u) (hb : b < w.heap.size) (hu : u.oneCell' = true) : WL w (.slice (some ⟨b, 0, none⟩) 1 1) 1 [.int .i64 x, u] :=
  ⟨_, 1, rfl, Nat.le_refl _, by unfold maxLen; omega, (fun e => by cases e), rfl, (fun z hz => by
    rcases List.mem_cons.1 hz with rfl | hz
    · rfl
    · rcases List.mem_cons.1 hz with rfl | hz
      · exact hu
      · cases hz), .inr ⟨b, 0, rfl, hb, fun j z hz => by
    rw [Nat.zero_add]
    match j, hz with
    | 0, hz => cases hz; exact h0
    | 1, hz => cases hz; exact h1⟩⟩
theorem oneCells {w : World} {x : Int} {u : Value} {l : List UInt8} (hx : W64 x) (hu : BV w u l) : Cells w [.int .i64 x, u] [(x, l)] := fun j y hj => by
  match j, hj with
  | 0, hj => cases hj; exact ⟨u, rfl, rfl, hx, hu⟩
theorem Bts.chgRow {w w' : World} {b R : Nat} {p : Option Addr} {l : List UInt8} {row : Array Value} {t : TypeId} (h : Bts w b p l) (hr : w.heap[R]? = some (.cells row t (0, 0))) (hv : ∀ v ∈ row.toList, ∀ c, v ≠ byt c) (hc : Chg R w w') : Bts w' b p l := by
  rcases h with e5 | ⟨o, e5, hlt, hcc⟩
  · exact .inl e5
  · refine .inr ⟨o, e5, Nat.lt_of_lt_of_le hlt hc.size, fun i c hi => ?_⟩
    have hbR : b ≠ R := by
      rintro rfl
      have := hcc i c hi
      simp only [World.cell?, hr] at this
      have hm : byt c ∈ row.toList := List.mem_of_getElem? (i := o + i) (by simpa using this)
      exact hv _ hm c rfl
    exact (hc.cell hlt hbR).trans (hcc i c hi)
theorem BV.setBox {w : World} {k o : Nat} {u : Value} {l : List UInt8} {v0 : Value} (h : BV w u l) (hc : w.cell? ⟨k, o, none⟩ = some v0) (hv : ∀ c, v0 ≠ byt c) (v : Value) : BV (w.setCell ⟨k, o, none⟩ v) u l := by
  obtain ⟨b, cap, p, e, h1, h2, h3, h4⟩ := h
  exact ⟨b, cap, p, e, h1, h2, h3, Bts.setBox h4 hc hv v⟩
theorem BV.chgRow {w w' : World} {R : Nat} {u : Value} {l : List UInt8} {row : Array Value} {t : TypeId} (h : BV w u l) (hr : w.heap[R]? = some (.cells row t (0, 0))) (hv : ∀ v ∈ row.toList, ∀ c, v ≠ byt c) (hc : Chg R w w') : BV w' u l := by
  obtain ⟨b, cap, p, e, h1, h2, h3, h4⟩ := h
  exact ⟨b, cap, p, e, h1, h2, h3, Bts.chgRow h4 hr hv hc⟩
/-- a list of writes whose own block is a new one -/
def PVg (m : Nat) (w : World) (v : Value) (s : List (Int × List UInt8)) : Prop := ∃ (b cap : Nat), v = .slice (some ⟨b, 0, none⟩) s.length cap ∧ s.length ≤ cap ∧ cap ≤ maxLen ∧ m ≤ b ∧ b < w.heap.size ∧
  ∀ j x, s[j]? = some x → ∃ u, w.cell? ⟨b, j * 2, none⟩ = some (.int .i64 x.1) ∧ w.cell? ⟨b, j * 2 + 1, none⟩ = some u ∧ W64 x.1 ∧ BV w u x.2
theorem PVg.pv {m : Nat} {w : World} {v : Value} {s : List (Int × List UInt8)} (h : PVg m w v s) : PV w v s := by
  obtain ⟨b, cap, e, h1, h2, h3, h4, h5⟩ := h
  exact ⟨b, cap, _, e, h1, h2, (fun e => by cases e), .inr ⟨0, rfl, h4, fun j x hj => by rw [Nat.zero_add]; exact h5 j x hj⟩⟩
theorem PVg.setBox {m : Nat} {w : World} {v : Value} {s : List (Int × List UInt8)} {k o : Nat} {v0 : Value} (h : PVg m w v s) (hk : k < m) (hc : w.cell? ⟨k, o, none⟩ = some v0) (hv : ∀ c, v0 ≠ byt c) (u : Value) : PVg m (w.setCell ⟨k, o, none⟩ u) v s := by
  obtain ⟨b, cap, e, h1, h2, h3, h4, h5⟩ := h
  refine ⟨b, cap, e, h1, h2, h3, by simpa [World.setCell] using h4, fun j x hj => ?_⟩
  obtain ⟨y, g1, g2, g3, g4⟩ := h5 j x hj
  refine ⟨y, ?_, ?_, g3, g4.setBox hc hv u⟩
  · rw [World.cell?_setCell_other]
    · exact g1
    · intro e'; cases e'; omega
  · rw [World.cell?_setCell_other]
    · exact g2
    · intro e'; cases e'; omega
theorem PVg.chgRow {m : Nat} {w w' : World} {v : Value} {s : List (Int × List UInt8)} {R : Nat} {row : Array Value} {t : TypeId} (h : PVg m w v s) (hk : R < m) (hr : w.heap[R]? = some (.cells row t (0, 0))) (hv : ∀ v ∈ row.toList, ∀ c, v ≠ byt c) (hc : Chg R w w') : PVg m w' v s := by
  obtain ⟨b, cap, e, h1, h2, h3, h4, h5⟩ := h
  refine ⟨b, cap, e, h1, h2, h3, Nat.lt_of_lt_of_le h4 hc.size, fun j x hj => ?_⟩
  obtain ⟨y, g1, g2, g3, g4⟩ := h5 j x hj
  exact ⟨y, (hc.cell h4 (by omega)).trans g1, (hc.cell h4 (by omega)).trans g2, g3, g4.chgRow hr hv hc⟩
/-- a list of writes, one longer, in new memory -/
def More (p : List (Int × List UInt8)) (w : World) (e : Ending) (w' : World) : Prop := ∃ v, e = .returned v ∧ PVg w.heap.size w' v p ∧ Below w.heap.size w w'
theorem concat_two (w3 : World) (pp : Option Addr) (M cp g : Nat) (p : List (Int × List UInt8)) (a : Int) (l : List UInt8) (hP : PV w3 (.slice pp M cp) p) (hM : p.length = M) (hm : M ≤ 4096) (hrow : Row w3 g l) (hl : l.length = 128) (ha : W64 a) :
    Calls Try.prog 33 #[.slice (some ⟨w3.heap.size + 1, 0, none⟩) 2 2] ((w3.alloc (.cells #[.int .i64 a, .slice (some ⟨g, 0, none⟩) 128 128] 54)).alloc (.cells #[.slice pp M cp, .slice (some ⟨w3.heap.size, 0, none⟩) 1 1] 23))
      (More (p ++ [(a, l)]) ((w3.alloc (.cells #[.int .i64 a, .slice (some ⟨g, 0, none⟩) 128 128] 54)).alloc (.cells #[.slice pp M cp, .slice (some ⟨w3.heap.size, 0, none⟩) 1 1] 23))) := by
  obtain ⟨xs, hwl, hcl⟩ := hP.wl
  rw [hM] at hwl
  have hbv := hrow.bv (by rw [hl]; unfold maxLen; omega)
  rw [hl] at hbv
  obtain ⟨t0, t1, t2, t3⟩ := twoCells w3 (.int .i64 a) (.slice (some ⟨g, 0, none⟩) 128 128) (.slice pp M cp) (.slice (some ⟨w3.heap.size, 0, none⟩) 1 1) 54 23
  have hb := two_below w3 (.cells #[.int .i64 a, .slice (some ⟨g, 0, none⟩) 128 128] 54) (.cells #[.slice pp M cp, .slice (some ⟨w3.heap.size, 0, none⟩) 1 1] 23)
  have hsz : ((w3.alloc (.cells #[.int .i64 a, .slice (some ⟨g, 0, none⟩) 128 128] 54)).alloc (.cells #[.slice pp M cp, .slice (some ⟨w3.heap.size, 0, none⟩) 1 1] 23)).heap.size = w3.heap.size + 2 := by simp
  generalize ((w3.alloc (.cells #[.int .i64 a, .slice (some ⟨g, 0, none⟩) 128 128] 54)).alloc (.cells #[.slice pp M cp, .slice (some ⟨w3.heap.size, 0, none⟩) 1 1] 23)) = W at *
  refine (concat_any (w3.heap.size + 1) M 1 cp 1 pp (some ⟨w3.heap.size, 0, none⟩) xs _ W (by omega) t0 t1 (hwl.below hb) (oneWL t2 t3 (by omega) rfl) (by omega)).mono ?_
  rintro e w4 ⟨v, rfl, ho, hb4, hnew⟩
  have hc := Cells.append (hcl.below hb) (oneCells ha (hbv.below hb)) (by rw [hM]; obtain ⟨_, _, _, _, _, _, h, _⟩ := hwl; exact h)
  rcases ho with ⟨_, h, _⟩ | ⟨G, c, rfl, ho⟩
  · omega
  · refine ⟨_, rfl, ⟨G, c, by rw [List.length_append, hM]; rfl, by rw [List.length_append, hM]; exact ho.le, ho.mx, hnew G rfl, ho.lt, fun j x hj => ?_⟩, hb4⟩
    obtain ⟨u, h1, h2, h3, h4⟩ := (hc.below hb4) j x hj
    exact ⟨u, ho.cells _ _ h1, ho.cells _ _ h2, h3, h4⟩
set_option maxHeartbeats 2000000 in
theorem write_yes (v : Value) (d : D) (a : Int) (bv : Value) (l : List UInt8) (w : World) (h : DV w v d) (hb : BV w bv l) (hr : runsB d = true) (hi : inB d.s.length a = true) (hl : ¬ 128 < l.length) (hm : ¬ d.p.length = 4096) (hm2 : d.p.length ≤ 4096) (ha : W64 a) : Calls Try.prog 19 #[v, .int .i64 a, bv] w (RetD ⟨d.s, d.p ++ [(a, fill l)], d.left, d.st⟩ 0 w) := by
  obtain ⟨ps, N, cs, pp, M, cp, rfl, HO, hs1, hs2, hp1, hp2⟩ := h.op
  clear h
  have HR : Hid (∀ w', Below w.heap.size w w' → Calls Try.prog 31 #[dval d ps N cs pp M cp] w' (Ret (.bool true) w')) := Lib.hid fun w' hb => by
    have := runs_any _ d w' (HO.out.below hb).dv
    rwa [hr] at this
  have HI : Hid (∀ w', Below w.heap.size w w' → Calls Try.prog 32 #[dval d ps N cs pp M cp, .int .i64 a] w' (Ret (.bool true) w')) := Lib.hid fun w' hb => by
    have := within_any _ d a w' (HO.out.below hb).dv
    rwa [hi] at this
  obtain ⟨pb, cb, rfl, hl1, hl2⟩ := hb.shape
  have HBV := Lib.hid hb
  have c9 : ¬ (128 : Int) < (l.length : Int) := by omega
  have c10 : ((M : Int) == 4096) = false := by have := HO.out.m; simp; omega
  clear hr hi hb
  go_enter Try.func19, Try.ntmps19
  go_wp2_with (first
    | (go_at_call 31; refine (HR.out _ (two_below _ _ _)).mono ?_; rintro e w1 ⟨rfl, hb1⟩; obtain ⟨⟨c0, c1, c2, c3⟩, r, f, hz1⟩ := boxedR (by simp) hb1; have HB := Lib.hid (two_later hb1); have HB0 := Lib.hid hb1; clear hb1)
    | (go_at_call 32; refine (HI.out _ HB.out).mono ?_; rintro e w2 ⟨rfl, hb2⟩; have hb3 := HB0.out.trans (hb2.mono HB0.out.size); clear c0 c1 c2 c3 r f hz1 HB HB0 hb2; obtain ⟨⟨c0, c1, c2, c3⟩, r, f, hz1⟩ := boxedR (by simp) hb3; have HB := Lib.hid (two_later hb3); have HB0 := Lib.hid hb3; clear hb3))
  have HM := Lib.hid (And.intro HO.out.m (And.intro hm hm2))
  have HA := Lib.hid ha
  clear hm hm2 ha
  go_region_with (first
      | (go_at_call 34; refine (filled_any _ l _ (HBV.out.below (drew_bel HB.out))).mono ?_; rintro e w3 ⟨g, rfl, hg, hrow, hb3⟩; have d1 := (bcells hb3 (show w.heap.size < w2.heap.size by omega) 1).trans c1; have hz3 : w.heap.size < w3.heap.size := (by have := hb3.size; simp at this; omega); have d1' : ∀ o : Obj, (w3.alloc o).cell? ⟨w.heap.size, 1, none⟩ = some (.slice pp M cp) := (fun o => (bcells (one_new _ _) hz3 1).trans d1); have HROW := Lib.hid hrow; have HB3 := Lib.hid hb3; clear hg hrow hb3)
      | (go_at_call 33; go_loud (refine (concat_two w3 pp M cp g d.p a (fill l) (HO.out.below (HB.out.trans ((drew_bel (Below.refl _ w2)).trans (HB3.out.mono (Nat.le_refl _)) |>.mono HB.out.size))).pen HM.out.1 (by have := HM.out; omega) HROW.out (fill_len l) HA.out).mono ?_; rintro e w4 ⟨v, rfl, hp4, hb4⟩; obtain ⟨q, c, rfl, hq1, hq2, _⟩ := hp4.pv.shape; have hb6 := HB3.out.trans ((two_later hb4).mono HB3.out.size); have e0 := (bcells hb6 (show w.heap.size < w2.heap.size by omega) 0).trans c0; have e1 := (bcells hb6 (show w.heap.size < w2.heap.size by omega) 1).trans c1; have e2 := (bcells hb6 (show w.heap.size < w2.heap.size by omega) 2).trans c2; have e3 := (bcells hb6 (show w.heap.size < w2.heap.size by omega) 3).trans c3; have f4 : (∀ o, w4.frozen? ⟨w.heap.size, o, none⟩ = false) := (fun o => (bfrozen hb6 (show w.heap.size < w2.heap.size by omega) o).trans (f o)); have r4 := Lib.hid ((hb6.block _ hz1).trans r.out); have HB6 := Lib.hid hb6; have HP4 := Lib.hid hp4; clear hp4 hb4 hb6)))
  all_goals
    go_wp2_with (refine dk_store rfl (.tmp 6) (.tmp 37) rfl (w.heap.size + 1) _ _ _ _ _ (row_set r4.out (by omega)) rfl rfl rfl ⟨rfl, rfl, rfl, rfl⟩ ?_; rintro w5 r5 hc5)
    have hle : (d.p ++ [(a, fill l)]).length = d.p.length + 1 := by simp
    rw [hle] at HP4
    have hp5 := (HP4.out.setBox (k := w.heap.size) (o := 1) (by simp; omega) e1 nb_slice (.slice q (d.p.length + 1) c)).chgRow (R := w.heap.size + 1) (by simp; omega) (row_set r4.out (by omega)) zero_nb hc5
    have hb4 := (drew_bel HB.out).trans (HB6.out.mono HB.out.size)
    have hb5 : Below w.heap.size w w5 := Chg.below (below_set hb4 (Nat.le_refl _) _) (by have := hb4.size; simpa [World.setCell] using this) (by omega) hc5
    exact bodyPost_ret (results_dk rfl _ _ _ _ _ _ _ _ rfl rfl r5.out) rfl ⟨_, rfl, ⟨_, _, rfl, (HO.out.below hb5).sec, hp5.pv, HO.out.left⟩, hb5⟩
theorem write_any (v : Value) (d : D) (a : Int) (bv : Value) (l : List UInt8) (w : World) (h : DV w v d) (hb : BV w bv l) (ha : W64 a) : Calls Try.prog 19 #[v, .int .i64 a, bv] w (RetD (writeD d a l) (writeE d a l) w) := by
  by_cases hr : runsB d = true
  · by_cases hi : inB d.s.length a = true
    · have h40 := (valid_of (runs_of hr).1).2.2.2.1
      by_cases hl : 128 < l.length
      · have e : writeE d a l = 1 := by unfold writeE; rw [if_pos ⟨hr, hi⟩, if_pos hl]
        have e' : writeD d a l = zero := by unfold writeD; rw [e]; rfl
        rw [e, e']
        exact write_long v d a bv l w h hb hr hi hl
      · by_cases hm : d.p.length = 4096
        · have e : writeE d a l = 2 := by unfold writeE; rw [if_pos ⟨hr, hi⟩, if_neg hl, if_pos hm]
          have e' : writeD d a l = zero := by unfold writeD; rw [e]; rfl
          rw [e, e']
          exact write_many v d a bv l w h hb hr hi hl hm
        · have e : writeE d a l = 0 := by unfold writeE; rw [if_pos ⟨hr, hi⟩, if_neg hl, if_neg hm]
          have e' : writeD d a l = ⟨d.s, d.p ++ [(a, fill l)], d.left, d.st⟩ := by unfold writeD; rw [if_pos e]
          rw [e, e']
          exact write_yes v d a bv l w h hb hr hi hl hm h40 ha
    · have e : writeE d a l = 40 := by unfold writeE; rw [if_neg (by simp [hi])]
      have e' : writeD d a l = zero := by unfold writeD; rw [e]; rfl
      rw [e, e']
      exact write_out v d a bv l w h hb hr (by simpa using hi)
  · have e : writeE d a l = 40 := by unfold writeE; rw [if_neg (by simp [hr])]
    have e' : writeD d a l = zero := by unfold writeD; rw [e]; rfl
    rw [e, e']
    exact write_no v d a bv w h (by simpa using hr)
end Go.Proofs.Ytanmhjbeookfiaa
