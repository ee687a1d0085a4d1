/-
  Disks: Sync.
-/
import Derived.Test.YtanmhjbeookfiaaAft
import Derived.Test.YtanmhjbeookfiaaPer
import Derived.BigQuiet
import Derived.Deep.RegionWith
namespace Go.Proofs.Ytanmhjbeookfiaa
open Go Go.RowKit
/-- what writes make of sectors, if they are of the right size -/
def perfR (s : List (List UInt8)) (p : List (Int × List UInt8)) : List (List UInt8) := p.foldl (fun s x => s.set x.1.toNat x.2) s
theorem fill_id {l : List UInt8} (h : l.length = 128) : fill l = l := by
  unfold fill over
  rw [List.take_of_length_le (by omega), h]
  simp
theorem putL_full {s : List (List UInt8)} {k : Nat} {d : List UInt8} (hs : (s.getD k []).length = 128) (hd : d.length = 128) : putL s k d 128 = s.set k d := by
  unfold putL
  rw [fill_id hs, List.take_of_length_le (by omega)]
  unfold over
  rw [hd, List.drop_of_length_le (by omega), List.append_nil]
theorem putL_torn {s : List (List UInt8)} {k : Nat} {d : List UInt8} (hs : (s.getD k []).length = 128) (hd : d.length = 128) : putL s k d 64 = s.set k (d.take 64 ++ (s.getD k []).drop 64) := by
  unfold putL
  rw [fill_id hs]
  unfold over
  rw [List.length_take, hd]
  rfl
theorem getD_sec {s : List (List UInt8)} (h : s.all secB = true) {k : Nat} (hk : k < s.length) : (s.getD k []).length = 128 := by
  have := List.all_eq_true.1 h s[k] (List.getElem_mem hk)
  unfold secB at this
  simpa [List.getD, List.getElem?_eq_getElem hk] using this
theorem set_all {α : Type} {f : α → Bool} {s : List α} {k : Nat} {x : α} (h : s.all f = true) (hx : f x = true) : (s.set k x).all f = true := by
  rw [List.all_eq_true] at h ⊢
  intro y hy
  rcases List.mem_or_eq_of_mem_set hy with e | e
  · exact h y e
  · rw [e]; exact hx
theorem penB_of {n : Nat} {x : Int × List UInt8} (h : penB n x = true) : 0 ≤ x.1 ∧ x.1 < n ∧ x.2.length = 128 := by
  unfold penB at h
  simp only [Bool.and_eq_true, decide_eq_true_eq] at h
  exact ⟨h.1.1, h.1.2, h.2⟩
theorem perf_eq : ∀ (p : List (Int × List UInt8)) (s : List (List UInt8)), s.all secB = true → p.all (penB s.length) = true → perf s p = perfR s p ∧ (perfR s p).all secB = true ∧ (perfR s p).length = s.length
  | [], s, hs, _ => ⟨rfl, hs, rfl⟩
  | x :: r, s, hs, hp => by
    rw [List.all_cons, Bool.and_eq_true] at hp
    obtain ⟨h0, h1, h2⟩ := penB_of hp.1
    have e : putL s x.1.toNat x.2 128 = s.set x.1.toNat x.2 := putL_full (getD_sec hs (by omega)) h2
    have hs' : (s.set x.1.toNat x.2).all secB = true := set_all hs (by unfold secB; simp [h2])
    obtain ⟨e1, e2, e3⟩ := perf_eq r (s.set x.1.toNat x.2) hs' (by rw [List.length_set]; exact hp.2)
    have e4 : perf s (x :: r) = perf (s.set x.1.toNat x.2) r := by unfold perf; rw [List.foldl_cons, e]
    have e5 : perfR s (x :: r) = perfR (s.set x.1.toNat x.2) r := rfl
    rw [e4, e5]
    exact ⟨e1, e2, by rw [e3, List.length_set]⟩
/-- a cell that holds no byte is stored to -/
theorem Bts.setBox {w : World} {b k o : Nat} {p : Option Addr} {l : List UInt8} {v0 : Value} (h : Bts w b p l) (hc : w.cell? ⟨k, o, none⟩ = some v0) (hv : ∀ c, v0 ≠ byt c) (v : Value) : Bts (w.setCell ⟨k, o, none⟩ v) b p l := by
  rcases h with h4 | ⟨o', e, hlt, hcc⟩
  · exact .inl h4
  · refine .inr ⟨o', e, by simpa [World.setCell] using hlt, fun j c hj => ?_⟩
    have h0 := hcc j c hj
    rw [World.cell?_setCell_other]
    · exact h0
    · intro e'
      rw [← e', hc] at h0
      exact hv c (Option.some.inj h0)
theorem BVx.setBox {G : Nat} {w : World} {k o : Nat} {u : Value} {l : List UInt8} {v0 : Value} (h : BVx G w u l) (hc : w.cell? ⟨k, o, none⟩ = some v0) (hv : ∀ c, v0 ≠ byt c) (v : Value) : BVx G (w.setCell ⟨k, o, none⟩ v) u l := by
  obtain ⟨b, cap, p, e, h1, h2, h3, h4, h5⟩ := h
  exact ⟨b, cap, p, e, h1, h2, h3, h4, h5.setBox hc hv v⟩
theorem OS.setBox {G : Nat} {w : World} {k o : Nat} {s : List (List UInt8)} {v0 : Value} (h : OS w G s) (hk : k ≠ G) (hc : w.cell? ⟨k, o, none⟩ = some v0) (hv : ∀ c, v0 ≠ byt c) (v : Value) : OS (w.setCell ⟨k, o, none⟩ v) G s := by
  refine ⟨by simpa [World.setCell] using h.lt, fun o' => by rw [World.frozen?_setCell]; exact h.free o', fun j l hj => ?_⟩
  obtain ⟨u, h1, h2⟩ := h.at' j l hj
  refine ⟨u, ?_, h2.setBox hc hv v⟩
  rw [World.cell?_setCell_other]
  · exact h1
  · intro e'
    cases e'
    exact hk rfl
theorem sc_other {w : World} {k i j : Nat} {v : Value} (h : i ≠ j) : (w.setCell ⟨k, i, none⟩ v).cell? ⟨k, j, none⟩ = w.cell? ⟨k, j, none⟩ := by
  rw [World.cell?_setCell_other]
  intro e
  cases e
  exact h rfl
theorem nb_slice {p : Option Addr} {n c : Nat} (x : UInt8) : Value.slice p n c ≠ byt x := fun h => by cases h
theorem nb_i64 {k : Int} (x : UInt8) : Value.int .i64 k ≠ byt x := fun h => by cases h
theorem nb_bool {k : Bool} (x : UInt8) : Value.bool k ≠ byt x := fun h => by cases h
theorem OS.box2 {G : Nat} {w : World} {k : Nat} {s : List (List UInt8)} {a b : Value} (h : OS w G s) (hk : k ≠ G) (c0 : w.cell? ⟨k, 0, none⟩ = some a) (c1 : w.cell? ⟨k, 1, none⟩ = some b) (ha : ∀ c, a ≠ byt c) (hb : ∀ c, b ≠ byt c) (v0 v1 : Value) :
    OS ((w.setCell ⟨k, 0, none⟩ v0).setCell ⟨k, 1, none⟩ v1) G s := (h.setBox hk c0 ha v0).setBox hk ((sc_other (by decide)).trans c1) hb v1
theorem OS.box3 {G : Nat} {w : World} {k : Nat} {s : List (List UInt8)} {a b c : Value} (h : OS w G s) (hk : k ≠ G) (c0 : w.cell? ⟨k, 0, none⟩ = some a) (c1 : w.cell? ⟨k, 1, none⟩ = some b) (c2 : w.cell? ⟨k, 2, none⟩ = some c) (ha : ∀ c, a ≠ byt c) (hb : ∀ c, b ≠ byt c) (hc : ∀ x, c ≠ byt x) (v0 v1 v2 : Value) :
    OS (((w.setCell ⟨k, 0, none⟩ v0).setCell ⟨k, 1, none⟩ v1).setCell ⟨k, 2, none⟩ v2) G s := (h.box2 hk c0 c1 ha hb v0 v1).setBox hk ((sc_other (by decide)).trans ((sc_other (by decide)).trans c2)) hc v2
/-- a block that holds no byte has changed -/
theorem OS.chgRow {G R : Nat} {w w' : World} {s : List (List UInt8)} {row : Array Value} {t : TypeId} (h : OS w G s) (hR : G ≠ R) (hr : w.heap[R]? = some (.cells row t (0, 0))) (hv : ∀ v ∈ row.toList, ∀ c, v ≠ byt c) (hc : Chg R w w') : OS w' G s := by
  refine ⟨Nat.lt_of_lt_of_le h.lt hc.size, fun o => by rw [World.frozen?_of_block (w := w) (a := ⟨G, o, none⟩) (hc.block G h.lt hR)]; exact h.free o, fun j l hj => ?_⟩
  obtain ⟨u, h1, b, cap, p, e, e1, e2, e3, e4, e5⟩ := h.at' j l hj
  refine ⟨u, (hc.cell h.lt hR).trans h1, b, cap, p, e, e1, e2, e3, e4, ?_⟩
  rcases e5 with e5 | ⟨o, e5, hlt, hcc⟩
  · exact .inl e5
  · refine .inr ⟨o, e5, Nat.lt_of_lt_of_le hlt hc.size, fun i c hi => ?_⟩
    have hbR : b ≠ R := by
      rintro rfl
      have := hcc i c hi
      simp only [World.cell?, hr] at this
      have hm : byt c ∈ row.toList := List.mem_of_getElem? (i := o + i) (by simpa using this)
      exact hv _ hm c rfl
    exact (hc.cell hlt hbR).trans (hcc i c hi)
theorem zero_nb : ∀ v ∈ (#[Value.slice none 0 0, Value.slice none 0 0, Value.int .i64 0, Value.bool false] : Array Value).toList, ∀ c, v ≠ byt c := by
  intro v hv c
  simp only [List.mem_cons, List.not_mem_nil, or_false] at hv
  rcases hv with rfl | rfl | rfl | rfl
  · exact nb_slice c
  · exact nb_slice c
  · exact nb_i64 c
  · exact nb_bool c
theorem OS.sv {w : World} {G : Nat} {s : List (List UInt8)} (h : OS w G s) (hl : s.length ≤ maxLen) : SV w (.slice (some ⟨G, 0, none⟩) s.length s.length) s :=
  ⟨G, _, _, rfl, Nat.le_refl _, hl, (fun e => by cases e), .inr ⟨0, rfl, h.lt, fun j l hj => by
    obtain ⟨u, h1, h2⟩ := h.at' j l hj
    exact ⟨u, by rw [Nat.zero_add]; exact h1, h2.bv⟩⟩⟩
theorem dv_os {w : World} {G N : Nat} {s : List (List UInt8)} {left : Int} {st : Bool} (h : OS w G s) (hl : s.length = N) (hN : N ≤ 4096) (hleft : W64 left) : DV w (.agg #[.slice (some ⟨G, 0, none⟩) N N, nils, .int .i64 left, .bool st]) ⟨s, [], left, st⟩ := by
  subst hl
  exact ⟨_, _, rfl, h.sv (by unfold maxLen; omega), nil_PV _, hleft⟩
theorem RetD.of {d : D} {e : Int} {w w' : World} {v : Value} {d' : D} {e' : Int} (hd : d = d') (he : e = e') (h : DV w' v d') (hb : Below w.heap.size w w') : RetD d e w (.returned (.tuple #[v, .int .i64 e'])) w' := by
  subst hd
  subst he
  exact ⟨v, rfl, h, hb⟩
/-- the next write is torn -/
def torn (s : List (List UInt8)) (x : Int × List UInt8) : List (List UInt8) := s.set x.1.toNat (x.2.take 64 ++ (s.getD x.1.toNat []).drop 64)
def synLeft (d : D) : Int := if d.left = -1 then d.left else d.left - many d
def syncD (d : D) : D := if runsB d = true then
    (match d.p[(many d).toNat]? with
     | some x => ⟨torn (perfR d.s (d.p.take (many d).toNat)) x, [], synLeft d, true⟩
     | none => ⟨perfR d.s (d.p.take (many d).toNat), [], synLeft d, d.st⟩) else zero
def syncE (d : D) : Int := if runsB d = true then (match d.p[(many d).toNat]? with | some _ => 40 | none => 0) else 40
theorem sync_no {d : D} (h : runsB d = false) : syncD d = zero ∧ syncE d = 40 := by unfold syncD syncE; rw [h]; exact ⟨rfl, rfl⟩
theorem sync_full {d : D} (h : runsB d = true) {m : Nat} (hm : many d = (m : Int)) (hM : d.p.length = m) : syncD d = ⟨perfR d.s d.p, [], synLeft d, d.st⟩ ∧ syncE d = 0 := by
  unfold syncD syncE
  rw [h, hm, Int.toNat_natCast, List.getElem?_eq_none (by omega), List.take_of_length_le (by omega)]
  exact ⟨rfl, rfl⟩
theorem sync_torn {d : D} (h : runsB d = true) {m : Nat} (hm : many d = (m : Int)) {x : Int × List UInt8} (hx : d.p[m]? = some x) : syncD d = ⟨torn (perfR d.s (d.p.take m)) x, [], synLeft d, true⟩ ∧ syncE d = 40 := by
  unfold syncD syncE
  rw [h, hm, Int.toNat_natCast, hx]
  exact ⟨rfl, rfl⟩
theorem bfrozen {w w' : World} (hb : Below w.heap.size w w') {b : Nat} (h : b < w.heap.size) (o : Nat) : w'.frozen? ⟨b, o, none⟩ = w.frozen? ⟨b, o, none⟩ := hb.frozen (p := ⟨b, o, none⟩) h
theorem valid_of {d : D} (h : valid d = true) : 1 ≤ d.s.length ∧ d.s.length ≤ 4096 ∧ d.s.all secB = true ∧ d.p.length ≤ 4096 ∧ d.p.all (penB d.s.length) = true ∧ -1 ≤ d.left ∧ d.left ≤ 65536 := by
  unfold valid okS okP okL at h
  simp only [Bool.and_eq_true, decide_eq_true_eq] at h
  exact ⟨h.1.1.1, h.1.1.2, h.1.2, h.2.1.1, h.2.1.2, h.2.2.1, h.2.2.2⟩
theorem runs_of {d : D} (h : runsB d = true) : valid d = true ∧ d.st = false := by
  unfold runsB at h
  simpa using h
theorem PV.take {w : World} {pp : Option Addr} {M cp : Nat} {p : List (Int × List UInt8)} (h : PV w (.slice pp M cp) p) (hM : p.length = M) (m c : Nat) (hm : m ≤ M) (hmc : m ≤ c) (hc : c ≤ cp) : PV w (.slice pp m c) (p.take m) := by
  obtain ⟨b, cap', p', hv, h1, h2, h3, h4⟩ := h
  cases hv
  have hl : (p.take m).length = m := by rw [List.length_take]; omega
  refine ⟨b, c, pp, by rw [hl], by omega, by omega, fun e => by have := h3 e; omega, ?_⟩
  rcases h4 with rfl | ⟨o, e, hlt, hc'⟩
  · exact .inl (by simp)
  · refine .inr ⟨o, e, hlt, fun j x hj => ?_⟩
    rw [List.getElem?_take] at hj
    split at hj
    · exact hc' j x hj
    · cases hj
set_option maxHeartbeats 1000000 in
theorem sync_any_no (v : Value) (d : D) (w : World) (h : DV w v d) (hr : runsB d = false) : Calls Try.prog 23 #[v] w (RetD (syncD d) (syncE d) w) := by
  obtain ⟨ps, N, cs, pp, M, cp, rfl, HO, hs1, hs2, hp1, hp2⟩ := h.op
  clear h
  have HR : Hid (∀ w', Below w.heap.size w w' → Calls Try.prog 31 #[dval d ps N cs pp M cp] w' (Ret (.bool (runsB d)) w')) := Lib.hid fun w' hb => runs_any _ d w' (HO.out.below hb).dv
  rw [hr] at HR
  rw [(sync_no hr).1, (sync_no hr).2]
  clear hr
  go_enter Try.func23, Try.ntmps23
  go_wp2_with (first
    | (go_at_call 31; refine (HR.out _ (two_below _ _ _)).mono ?_; rintro e w1 ⟨rfl, hb1⟩; obtain ⟨⟨c0, c1, c2, c3⟩, r, f, hz1⟩ := boxedR (by simp) hb1; have HB := Lib.hid (two_later hb1); clear hb1)
    | (refine dk_store rfl (.tmp 2) (.tmp 9) rfl (w.heap.size + 1) _ _ _ _ _ r.out rfl rfl rfl ⟨rfl, rfl, rfl, rfl⟩ ?_; rintro w2 r2 hc2))
  exact bodyPost_ret (results_dk rfl _ _ _ _ _ _ _ _ rfl rfl r2.out) rfl ⟨_, rfl, zero_DV _, Chg.below HB.out HB.out.size (by omega) hc2⟩
set_option maxHeartbeats 2000000 in
theorem sync_any_full (v : Value) (d : D) (w : World) (h : DV w v d) (hr : runsB d = true) (hfull : many d = (d.p.length : Int)) : Calls Try.prog 23 #[v] w (RetD (syncD d) (syncE d) w) := by
  obtain ⟨ps, N, cs, pp, M, cp, rfl, HO, hs1, hs2, hp1, hp2⟩ := h.op
  clear h
  have HR : Hid (∀ w', Below w.heap.size w w' → Calls Try.prog 31 #[dval d ps N cs pp M cp] w' (Ret (.bool (runsB d)) w')) := Lib.hid fun w' hb => runs_any _ d w' (HO.out.below hb).dv
  have HP : Hid (∀ w', Below w.heap.size w w' → Calls Try.prog 36 #[dval d ps N cs pp M cp] w' (Ret (.int .i64 (many d)) w')) := Lib.hid fun w' hb => performed_any _ d w' (HO.out.below hb).dv
  rw [hr] at HR
  obtain ⟨hv, hst⟩ := runs_of hr
  obtain ⟨v1, v2, v3, v4, v5, v6, v7⟩ := valid_of hv
  have hN := HO.out.n
  have hM := HO.out.m
  rw [hN] at v1 v2 v5
  rw [hM] at v4
  obtain ⟨m, hm⟩ : ∃ m : Nat, many d = (m : Int) := Int.eq_ofNat_of_zero_le (by unfold many; repeat' split
                                                                                all_goals omega)
  have hmM : m ≤ M := by
    have : many d ≤ M := by unfold many; rw [hM]; repeat' split
                            all_goals omega
    omega
  rw [hm] at HP
  rw [hM, hm] at hfull
  have hmM2 : m = M := by omega
  have HSF := Lib.hid (sync_full hr hm (hM.trans hmM2.symm))
  have HPE := Lib.hid (perf_eq d.p d.s v3 (by rw [hN]; exact v5))
  have HSL : Hid (synLeft d = if d.left = -1 then d.left else d.left - (m : Int)) := Lib.hid (by unfold synLeft; rw [hm])
  have HV := Lib.hid (And.intro hr (And.intro hst (And.intro v3 (And.intro v5 (And.intro hm (And.intro hN hM))))))
  clear hr hv hst v3 v5 hm hN hM hfull
  subst hmM2
  go_enter Try.func23, Try.ntmps23
  go_wp2_with (go_at_call 31; refine (HR.out _ (two_below _ _ _)).mono ?_; rintro e w1 ⟨rfl, hb1⟩; obtain ⟨⟨c0, c1, c2, c3⟩, r, f, hz1⟩ := boxedR (by simp) hb1; have HB := Lib.hid (two_later hb1); have HB0 := Lib.hid hb1; clear hb1)
  have C0 := Later.cell (by omega) c0
  have C1 := Later.cell (by omega) c1
  have C2 := Later.cell (by omega) c2
  have C3 := Later.cell (by omega) c3
  have HPL := fun x : Later w1 => HP.out x.v (HB.out.trans (x.b.mono HB.out.size))
  clear c0 c1 c2 c3
  refine wp_region_later (by kernel_rfl) (by kernel_rfl) ?_
  repeat (go_big_quiet_step ((go_at_call 36; exact Later.calls (HPL _))))
  refine wpQuiet_nil ?_
  intro _ hw'
  obtain ⟨x, hx⟩ := hw'
  subst hx
  have hb2 := HB0.out.trans (x.b.mono HB0.out.size)
  clear C0 C1 C2 C3 HPL HB HB0 r f hz1
  generalize x.v = w2 at *
  obtain ⟨⟨c0, c1, c2, c3⟩, r, f, hz2⟩ := boxedR (by simp) hb2
  have HB2 := Lib.hid (two_later hb2)
  clear hb2
  have hmi : (m : Int) ≤ (cp : Int) := by omega
  have HPV : Hid (PV w2 (.slice pp m m) (d.p.take m)) := Lib.hid ((HO.out.below HB2.out).pen.take HO.out.m m m hmM (Nat.le_refl _) (by omega))
  have HSV : Hid (SV w2 (.slice ps N cs) d.s) := Lib.hid (HO.out.below HB2.out).sec
  have HPM : Hid ((d.p.take m).length = m ∧ (d.p.take m).all (penB N) = true) := Lib.hid ⟨by rw [List.length_take, HO.out.m]; omega, by
    rw [List.all_eq_true]
    intro x hx
    exact List.all_eq_true.1 HV.out.2.2.2.1 x (List.mem_of_mem_take hx)⟩
  go_wp2_with fail
  refine wp_region_still_tail 6 (by kernel_rfl) (by kernel_rfl) ?_
  simp only [List.take_succ_cons, List.take_zero, List.drop_succ_cons, List.drop_zero]
  have hmm : (m : Int) ≤ (m : Int) := Int.le_refl _
  iterate 5 still_step
  have hpn : pp = none → cp = 0 := by
    obtain ⟨b', cap', p', hv, h1, h2, h3, h4⟩ := HO.out.pen
    cases hv
    exact h3
  have HC : Hid (pp = none → cp = 0) := Lib.hid hpn
  have HC : Hid (pp = none → cp = 0) := Lib.hid hpn
  have HTK : Hid (d.p.take m = d.p) := Lib.hid (List.take_of_length_le (by have := HO.out.m; omega))
  have hmM3 : ¬ (m : Int) < (m : Int) := by omega
  by_cases hl : d.left = -1
  all_goals
    first
      | (have hl1 : (d.left != -1) = false := by simp [hl])
      | (have hl1 : (d.left != -1) = true := by simp [hl])
  all_goals
    have HL := Lib.hid hl
    clear hl hpn
  all_goals
    rcases pp with _ | ⟨pb, po, psp⟩
  any_goals
    obtain rfl := HC.out rfl
    obtain rfl : m = 0 := by omega
  all_goals
    still_step
    refine wpStill_nil ?_
    change wpList _ _ _ _ _ w2.drew
    have hdr : Below w2.heap.size w2 w2.drew := ⟨rfl, rfl, rfl, Nat.le_refl _, fun _ _ => rfl⟩
    have HB3 := Lib.hid (HB2.out.trans (hdr.mono HB2.out.size))
    have HPV3 := Lib.hid (HPV.out.below hdr)
    have HSV3 := Lib.hid (HSV.out.below hdr)
    have c0 := (bcells hdr (by omega) _).trans c0
    have c1 := (bcells hdr (by omega) _).trans c1
    have c2 := (bcells hdr (by omega) _).trans c2
    have c3 := (bcells hdr (by omega) _).trans c3
    have r3 := Lib.hid ((hdr.block _ hz2).trans r.out)
    have f3 : ∀ o, w2.drew.frozen? ⟨w.heap.size, o, none⟩ = false := f
    have hz3 : w.heap.size + 1 < w2.drew.heap.size := hz2
    clear hdr HB2 HPV HSV r f hz2
    generalize w2.drew = w3 at *
    go_wp2_with fail
    refine (after_any _ _ N cs _ _ d.s (d.p.take _) _ HSV3.out HO.out.n v2 hs1 hs2 HPV3.out HPM.out.1 (Nat.le_refl _) (by omega) HPM.out.2).mono ?_
    rintro e w4 ⟨G, rfl, hG, hos, hb4⟩
    have c0' := (bcells hb4 (by omega) _).trans c0
    have c1' := (bcells hb4 (by omega) _).trans c1
    have c2' := (bcells hb4 (by omega) _).trans c2
    have c3' := (bcells hb4 (by omega) _).trans c3
    have r4 := Lib.hid ((hb4.block _ hz3).trans r3.out)
    have f4 : (∀ o, w4.frozen? ⟨w.heap.size, o, none⟩ = false) := (fun o => (bfrozen hb4 (by omega) o).trans (f3 o))
    have HB4 := Lib.hid (HB3.out.trans (hb4.mono HB3.out.size))
    have HOS := Lib.hid hos
    have hz4 : w.heap.size + 1 < G := (by omega)
    have hz5 : w.heap.size < w4.heap.size := by have := hb4.size; omega
    clear hb4 hos c0 c1 c2 c3 r3 f3
  · go_wp2_with (refine dk_store rfl (.tmp 2) (.tmp 44) rfl (w.heap.size + 1) _ _ _ _ _ (row_set (row_set r4.out (by omega)) (by omega)) rfl rfl rfl ⟨rfl, rfl, rfl, rfl⟩ ?_; rintro w5 r5 hc5)
    have hos5 := (HOS.out.box2 (by omega) c0' c1' nb_slice nb_slice (.slice (some ⟨G, 0, none⟩) N N) nils).chgRow (by omega) (row_set (row_set r4.out (by omega)) (by omega)) zero_nb hc5
    have hb5 : Below w.heap.size w w5 := Chg.below (below_set (below_set HB4.out (Nat.le_refl _) _) (Nat.le_refl _) _) (by have := HB4.out.size; simpa [World.setCell] using this) (by omega) hc5
    rw [HTK.out, HPE.out.1] at hos5
    exact bodyPost_ret (results_dk rfl _ _ _ _ _ _ _ _ rfl rfl r5.out) rfl (RetD.of (HSF.out.1.trans (by rw [HSL.out, if_pos HL.out])) HSF.out.2 (dv_os hos5 (by rw [HPE.out.2.2]; exact HO.out.n) v2 (by unfold W64; omega)) hb5)
  · go_wp2_with (refine dk_store rfl (.tmp 2) (.tmp 44) rfl (w.heap.size + 1) _ _ _ _ _ (row_set (row_set r4.out (by omega)) (by omega)) rfl rfl rfl ⟨rfl, rfl, rfl, rfl⟩ ?_; rintro w5 r5 hc5)
    have hos5 := (HOS.out.box2 (by omega) c0' c1' nb_slice nb_slice (.slice (some ⟨G, 0, none⟩) N N) nils).chgRow (by omega) (row_set (row_set r4.out (by omega)) (by omega)) zero_nb hc5
    have hb5 : Below w.heap.size w w5 := Chg.below (below_set (below_set HB4.out (Nat.le_refl _) _) (Nat.le_refl _) _) (by have := HB4.out.size; simpa [World.setCell] using this) (by omega) hc5
    rw [HTK.out, HPE.out.1] at hos5
    exact bodyPost_ret (results_dk rfl _ _ _ _ _ _ _ _ rfl rfl r5.out) rfl (RetD.of (HSF.out.1.trans (by rw [HSL.out, if_pos HL.out])) HSF.out.2 (dv_os hos5 (by rw [HPE.out.2.2]; exact HO.out.n) v2 (by unfold W64; omega)) hb5)
  · go_wp2_with (refine dk_store rfl (.tmp 2) (.tmp 44) rfl (w.heap.size + 1) _ _ _ _ _ (row_set (row_set (row_set r4.out (by omega)) (by omega)) (by omega)) rfl rfl rfl ⟨rfl, rfl, rfl, rfl⟩ ?_; rintro w5 r5 hc5)
    have hos5 := (HOS.out.box3 (by omega) c0' c1' c2' nb_slice nb_slice nb_i64 (.slice (some ⟨G, 0, none⟩) N N) nils (.int .i64 d.left)).chgRow (by omega) (row_set (row_set (row_set r4.out (by omega)) (by omega)) (by omega)) zero_nb hc5
    have hb5 : Below w.heap.size w w5 := Chg.below (below_set (below_set (below_set HB4.out (Nat.le_refl _) _) (Nat.le_refl _) _) (Nat.le_refl _) _) (by have := HB4.out.size; simpa [World.setCell] using this) (by omega) hc5
    rw [HTK.out, HPE.out.1] at hos5
    exact bodyPost_ret (results_dk rfl _ _ _ _ _ _ _ _ rfl rfl r5.out) rfl (RetD.of (HSF.out.1.trans (by rw [HSL.out, if_neg HL.out]; simp)) HSF.out.2 (dv_os hos5 (by rw [HPE.out.2.2]; exact HO.out.n) v2 (by unfold W64; omega)) hb5)
  · go_wp2_with (refine dk_store rfl (.tmp 2) (.tmp 44) rfl (w.heap.size + 1) _ _ _ _ _ (row_set (row_set (row_set r4.out (by omega)) (by omega)) (by omega)) rfl rfl rfl ⟨rfl, rfl, rfl, rfl⟩ ?_; rintro w5 r5 hc5)
    have hos5 := (HOS.out.box3 (by omega) c0' c1' c2' nb_slice nb_slice nb_i64 (.slice (some ⟨G, 0, none⟩) N N) nils (.int .i64 (d.left - (m : Int)))).chgRow (by omega) (row_set (row_set (row_set r4.out (by omega)) (by omega)) (by omega)) zero_nb hc5
    have hb5 : Below w.heap.size w w5 := Chg.below (below_set (below_set (below_set HB4.out (Nat.le_refl _) _) (Nat.le_refl _) _) (Nat.le_refl _) _) (by have := HB4.out.size; simpa [World.setCell] using this) (by omega) hc5
    rw [HTK.out, HPE.out.1] at hos5
    exact bodyPost_ret (results_dk rfl _ _ _ _ _ _ _ _ rfl rfl r5.out) rfl (RetD.of (HSF.out.1.trans (by rw [HSL.out, if_neg HL.out])) HSF.out.2 (dv_os hos5 (by rw [HPE.out.2.2]; exact HO.out.n) v2 (by unfold W64; omega)) hb5)
end Go.Proofs.Ytanmhjbeookfiaa
