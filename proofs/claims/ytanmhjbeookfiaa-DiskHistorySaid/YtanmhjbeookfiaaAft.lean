/-
  Disks: after: the sectors after some writes, in a new list.
-/
import Derived.Test.YtanmhjbeookfiaaPut
import Derived.Test.YtanmhjbeookfiaaChk
namespace Go.Proofs.Ytanmhjbeookfiaa
open Go Go.RowKit
theorem BVx.below {G : Nat} {w w' : World} {v : Value} {l : List UInt8} (h : BVx G w v l) (hb : Below w.heap.size w w') : BVx G w' v l := h.chg (Chg.of_below hb)
abbrev nils : Value := .slice none 0 0
theorem made_any (v : Value) (z : Nat) : madeCells #[v] z = (List.replicate z v).toArray := by
  apply Array.ext_getElem?
  intro i
  unfold madeCells
  by_cases h : i < z
  · simp [h, Nat.mod_one]
  · simp [h]
theorem info35 : (Try.prog.info? 35).map (fun i => (i.size, i.bytes, i.zero)) = some (1, 24, some (.slice none 0 0)) := by kernel_rfl
theorem size35 : (Try.prog.info? 35).map (·.size) = some 1 := by kernel_rfl
def nrow (z : Nat) : Array Value := (List.replicate z nils).toArray
theorem made_run22 (z : Nat) (hz : z ≤ 4096) (W : World) : (Instr.makeSlice 22 (.int .i64 (z : Int)) (.int .i64 (z : Int))).run Try.prog W = .ok (.slice (some ⟨W.heap.size, 0, none⟩) z z) (W.alloc (.cells (nrow z) 35)) := by
  have h5 := info35
  cases hi : Try.prog.info? 35 with
  | none => rw [hi] at h5; cases h5
  | some i =>
    rw [hi] at h5
    simp only [Option.map_some, Option.some.injEq, Prod.mk.injEq] at h5
    obtain ⟨s1, s2, s3⟩ := h5
    have h := run_make (P := Try.prog) W 22 35 i (.slice none 0 0) Try.underlying22 hi s3 .i64 .i64 z z (by omega) (Int.le_refl _) (by rw [s2]; omega) (by omega)
    rw [s1] at h
    unfold nrow
    rw [← made_any]
    simpa [Value.cells] using h
/-- a block of headers -/
def HRow (w : World) (g : Nat) (us : List Value) : Prop := w.heap[g]? = some (.cells us.toArray 35 (0, 0))
theorem hrow_new (w : World) (z : Nat) : HRow (w.alloc (.cells (nrow z) 35)) w.heap.size (List.replicate z nils) := heap_alloc_new _ _
theorem choose {α : Type} {P : Nat → α → Value → Prop} : ∀ {s : List α} (o : Nat), (∀ (j : Nat) (l : α), s[j]? = some l → ∃ u, P (o + j) l u) → ∃ us : List Value, us.length = s.length ∧ ∀ (j : Nat) (l : α), s[j]? = some l → ∃ u, us[j]? = some u ∧ P (o + j) l u
  | [], _, _ => ⟨[], rfl, fun j l h => by simp at h⟩
  | a :: r, o, h => by
    obtain ⟨u, hu⟩ := h 0 a rfl
    obtain ⟨us, hl, hus⟩ := choose (s := r) (o + 1) (fun j l hj => by
      obtain ⟨u, hu⟩ := h (j + 1) l hj
      exact ⟨u, by rw [show o + 1 + j = o + (j + 1) by omega]; exact hu⟩)
    refine ⟨u :: us, by simp [hl], fun j l hj => ?_⟩
    cases j with
    | zero => cases hj; exact ⟨u, rfl, hu⟩
    | succ j =>
      obtain ⟨u', h1, h2⟩ := hus j l hj
      exact ⟨u', h1, by rw [show o + (j + 1) = o + 1 + j by omega]; exact h2⟩
/-- the headers of sectors -/
theorem SV.vals {w : World} {p : Option Addr} {N cap : Nat} {s : List (List UInt8)} (h : SV w (.slice p N cap) s) (hN : s.length = N) : ∃ us : List Value, us.length = N ∧ (0 < N → ∃ b o, p = some ⟨b, o, none⟩ ∧ b < w.heap.size ∧ ∀ (j : Nat) (u : Value), us[j]? = some u → w.cell? ⟨b, o + j, none⟩ = some u) ∧
    (∀ (j : Nat) (l : List UInt8), s[j]? = some l → ∃ u, us[j]? = some u ∧ BV w u l) ∧ ∀ u ∈ us, u.oneCell' = true := by
  obtain ⟨b, cap', p', hv, h1, h2, h3, h4⟩ := h
  cases hv
  rcases h4 with rfl | ⟨o, rfl, hlt, hc⟩
  · exact ⟨[], rfl, fun h => by simp at h, fun j l h => by simp at h, by simp⟩
  · obtain ⟨us, hl, hus⟩ := choose (P := fun j l u => w.cell? ⟨b, j, none⟩ = some u ∧ BV w u l) (s := s) o hc
    have hall : ∀ (j : Nat) (u : Value), us[j]? = some u → w.cell? ⟨b, o + j, none⟩ = some u ∧ ∃ l, BV w u l := fun j u hj => by
      have hj' : j < s.length := by rw [← hl]; exact (List.getElem?_eq_some_iff.1 hj).1
      obtain ⟨u', e1, e2, e3⟩ := hus j _ (List.getElem?_eq_getElem hj')
      rw [hj] at e1
      cases e1
      exact ⟨e2, _, e3⟩
    refine ⟨us, hl, fun _ => ⟨b, o, rfl, hlt, fun j u hj => (hall j u hj).1⟩, fun j l hj => ?_, fun u hu => ?_⟩
    · obtain ⟨u, e1, _, e3⟩ := hus j l hj
      exact ⟨u, e1, e3⟩
    · obtain ⟨j, hj⟩ := List.getElem?_of_mem hu
      obtain ⟨_, l, hb⟩ := hall j u hj
      obtain ⟨_, _, rfl, _⟩ := hb.shape
      rfl
theorem os_of_row {w0 w : World} {G : Nat} {us : List Value} {s : List (List UInt8)} (hr : HRow w G us) (hG : w0.heap.size ≤ G) (hb : Below w0.heap.size w0 w) (hus : ∀ (j : Nat) (l : List UInt8), s[j]? = some l → ∃ u, us[j]? = some u ∧ BV w0 u l) : OS w G s := by
  unfold HRow at hr
  refine ⟨(Array.getElem?_eq_some_iff.1 hr).1, fun o => by simp [World.frozen?, hr], fun j l hj => ?_⟩
  obtain ⟨u, h1, h2⟩ := hus j l hj
  exact ⟨u, by simp [World.cell?, hr, h1], (BVx.of_new h2 hG).below hb⟩
theorem hdr_copy {w : World} {ops : Array Oper} {rest : List Oper} {o : Oper} {a : Act} {Q : Exit → Act → World → Prop} (hgd : o.guard = none) (d s : Operand)
    (ho : o.op = .call { callee := .builtin .copy, args := #[d, s], argTypes := #[22, 22] }) (g N cap : Nat) (p : Option Addr) (us : List Value) (hd : a.eval d = .slice (some ⟨g, 0, none⟩) N N) (hs : a.eval s = .slice p N cap)
    (hrow : HRow w g (List.replicate N nils)) (hN : us.length = N) (hc : 0 < N → ∃ b o, p = some ⟨b, o, none⟩ ∧ b < w.heap.size ∧ ∀ (j : Nat) (u : Value), us[j]? = some u → w.cell? ⟨b, o + j, none⟩ = some u) (h1 : ∀ u ∈ us, u.oneCell' = true) (B : Nat) (w0 : World) (hbl : Below B w0 w) (hBg : B ≤ g)
    (h : ∀ w', Hid (HRow w' g us) → Below B w0 w' → wpList Try.prog ops Q rest (a.put o.dst (goInt us.length)) w') : wpList Try.prog ops Q (o :: rest) a w := by
  refine wpList_copy_splice hgd d s 22 22 ho 35 Try.underlying22 size35 (some ⟨g, 0, none⟩) p N N N cap hd hs g 0 (List.replicate N nils) 35 hrow us (by rw [hN]; simp) (fun h0 => ⟨rfl, ?_⟩) (by simp [hN]) h1 B w0 hbl hBg ?_
  · obtain ⟨b, o', e, _, hcc⟩ := hc (by omega)
    exact ⟨_, e, fun j v hj => by rw [Addr.add_lit]; exact hcc j v hj⟩
  · intro w' hr hb'
    exact h w' (Lib.hid (by have := hr.out; unfold splice at this; simpa [hN, HRow] using this)) hb'
/-- what writes make of sectors -/
def perf (s : List (List UInt8)) (p : List (Int × List UInt8)) : List (List UInt8) := p.foldl (fun s x => putL s x.1.toNat x.2 128) s
theorem putL_len (s : List (List UInt8)) (k : Nat) (d : List UInt8) (m : Nat) : (putL s k d m).length = s.length := by simp [putL]
theorem perf_len (p : List (Int × List UInt8)) : ∀ s, (perf s p).length = s.length := by
  unfold perf
  induction p with
  | nil => intro s; rfl
  | cons x r ih => intro s; rw [List.foldl_cons, ih, putL_len]
theorem perf_snoc (s : List (List UInt8)) (p : List (Int × List UInt8)) (x : Int × List UInt8) : perf s (p ++ [x]) = putL (perf s p) x.1.toNat x.2 128 := by simp [perf]
/-- it returns a new list of these sectors -/
def OSR (N : Nat) (s : List (List UInt8)) (w : World) (e : Ending) (w' : World) : Prop := ∃ G, e = .returned (.slice (some ⟨G, 0, none⟩) N N) ∧ w.heap.size ≤ G ∧ OS w' G s ∧ Below w.heap.size w w'
theorem put_128 (G k N cap : Nat) (s : List (List UInt8)) (dv : Value) (d : List UInt8) (w : World) (hs : OS w G s) (hN : s.length = N) (hk : k < N) (hc : N ≤ cap) (hm : cap ≤ 9223372036854775807) (hd : BVx G w dv d) :
    Calls Try.prog 38 #[.slice (some ⟨G, 0, none⟩) N cap, .agg #[.int .i64 (k : Int), dv], .int .i64 128] w (PutR G (putL s k d 128) w) := put_any G k N cap 128 s dv d w hs hN hk hc hm hd (Nat.le_refl _)
set_option maxHeartbeats 1000000 in
theorem after_any (ps pp : Option Addr) (N cs M cp : Nat) (s : List (List UInt8)) (p : List (Int × List UInt8)) (w : World) (hs : SV w (.slice ps N cs) s) (hN : s.length = N) (hN2 : N ≤ 4096) (hcs : N ≤ cs) (hcs2 : cs ≤ 9223372036854775807)
    (hp : PV w (.slice pp M cp) p) (hM : p.length = M) (hcp : M ≤ cp) (hcp2 : cp ≤ 9223372036854775807) (hok : p.all (penB N) = true) :
    Calls Try.prog 37 #[.slice ps N cs, .slice pp M cp] w (OSR N (perf s p) w) := by
  obtain ⟨us, hu1, hu2, hu3, hu4⟩ := hs.vals hN
  have HU1 := Lib.hid hu1
  have HU2 := Lib.hid hu2
  have HU3 := Lib.hid hu3
  have HU4 := Lib.hid hu4
  have HP : Hid (Op w ⟨s, p, 0, false⟩ ps N cs pp M cp) := Lib.hid ⟨hN, hM, hs, hp, by unfold W64; exact ⟨by show (-9223372036854775808 : Int) ≤ 0; omega, by show (0 : Int) ≤ 9223372036854775807; omega⟩⟩
  have HOK := Lib.hid hok
  have mk := made_run22 N hN2
  clear hs hN hp hM hok hu1 hu2 hu3 hu4
  go_enter Try.func37, Try.ntmps37
  go_wp2_with (refine hdr_copy rfl (.tmp 11) (.tmp 12) rfl w.heap.size N cs ps us rfl rfl (hrow_new w N) HU1.out (fun h => by obtain ⟨b, o, e, hb, hc⟩ := HU2.out h; exact ⟨b, o, e, by simp; omega, fun j u hj => (bcells (one_new w _) hb _).trans (hc j u hj)⟩) HU4.out w.heap.size w (one_new w _) (Nat.le_refl _) ?_; rintro w1 hr1 hb1)
  have hos : OS w1 w.heap.size s := os_of_row hr1.out (Nat.le_refl _) hb1 HU3.out
  clear mk hr1
  go_loopw [16] (fun i wr => ∃ k : Nat, k ≤ M ∧ i = .int .i64 k ∧ Hid (OS wr w.heap.size (perf s (p.take k))) ∧ Hid (Below w.heap.size w wr)) (fun i _ => M - (intOf i).toNat)
  case atStart => exact ⟨0, Nat.zero_le _, rfl, Lib.hid (by simpa [perf] using hos), Lib.hid hb1⟩
  case round =>
    clear hos hb1
    obtain ⟨k, hk, rfl, HA, HB⟩ := hrel
    by_cases hlt : k < M
    · obtain ⟨b, o, n, pu, L, cu, l, rfl, hbl, g0, g1, HL, hu1, hu2, hw⟩ := (HP.out.below HB.out).penAt k hlt
      have hpn : penB N (n, l) = true := List.all_eq_true.1 HOK.out _ (List.mem_of_getElem? HL.out.1)
      unfold penB at hpn
      simp only [Bool.and_eq_true, decide_eq_true_eq] at hpn
      obtain ⟨m, rfl⟩ := Int.eq_ofNat_of_zero_le hpn.1.1
      have hmN : m < N := by omega
      have HX : Hid (BVx w.heap.size wr (.slice pu L cu) l) := Lib.hid (by
        obtain ⟨b', o', n', pu', L', cu', l', e, _, g0', g1', HL', _⟩ := HP.out.penAt k hlt
        cases e
        have hbb : b < w.heap.size := by assumption
        have e1 := (bcells HB.out hbb (o + k * 2 + 1)).symm.trans g1
        rw [g1'] at e1
        cases e1
        have e2 := HL'.out.1.symm.trans HL.out.1
        cases e2
        exact (BVx.of_new HL'.out.2.2 (Nat.le_refl _)).below HB.out)
      have HN' := Lib.hid (show ((perf s (p.take k))).length = N by rw [perf_len]; exact HP.out.n)
      have hz : w.heap.size < wr.heap.size := HA.out.lt
      clear hpn
      go_wp2_with (go_at_call 38; refine (put_128 w.heap.size m N N _ (.slice pu L cu) l _ (HA.out.below (one_new wr _)) HN'.out hmN (Nat.le_refl _) (by omega) (HX.out.below (one_new wr _))).mono ?_; rintro e w2 ⟨rfl, hos2, hc2⟩)
      go_roundw
      case rel => exact ⟨k + 1, by omega, by go_num, Lib.hid (by
        obtain ⟨hlt', e⟩ := List.getElem?_eq_some_iff.1 HL.out.1
        rw [List.take_succ_eq_append_getElem hlt', e, perf_snoc]
        exact hos2), Lib.hid (Chg.below (HB.out.trans ((one_new wr _).mono HB.out.size)) (Nat.le_trans HB.out.size (by simp)) (Nat.le_refl _) hc2)⟩
      case measure => simp [intOf]; omega
    · have hkM : k = M := by omega
      have HE := Lib.hid (show p.take k = p from List.take_of_length_le (by have := HP.out.m; simp only at this; omega))
      clear hkM
      go_wp2_with fail
      go_ret
      exact ⟨_, rfl, Nat.le_refl _, by rw [← HE.out]; exact HA.out, HB.out⟩
end Go.Proofs.Ytanmhjbeookfiaa
