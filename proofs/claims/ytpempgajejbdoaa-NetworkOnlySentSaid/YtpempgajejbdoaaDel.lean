/-
  Links: Deliver, the program's and the reference's.
-/
import Derived.Test.YtpempgajejbdoaaRep
import Derived.Test.YtpempgajejbdoaaIsc
namespace Go.Proofs.Ytpempgajejbdoaa
open Go Go.RowKit
variable {F : Nat → Prop}
theorem set3_row {w : World} {B : Nat} {x y z a b c : Value} (r : w.heap[B]? = some (.cells #[x, y, z] 28 (0, 0))) : (((w.setCell ⟨B, 0, none⟩ a).setCell ⟨B, 1, none⟩ b).setCell ⟨B, 2, none⟩ c).heap[B]? = some (.cells #[a, b, c] 28 (0, 0)) := by
  simp only [World.setCell, Array.getElem?_modify, r]
  simp
theorem set3_chg (w : World) (B : Nat) (a b c : Value) : Chg B w (((w.setCell ⟨B, 0, none⟩ a).setCell ⟨B, 1, none⟩ b).setCell ⟨B, 2, none⟩ c) := (((Chg.refl B w).set (.inl rfl) a).set (.inl rfl) b).set (.inl rfl) c
theorem row3_cells {w : World} {B : Nat} {x y z : Value} (r : w.heap[B]? = some (.cells #[x, y, z] 28 (0, 0))) : (w.cell? ⟨B, 0, none⟩ = some x ∧ w.cell? ⟨B, 1, none⟩ = some y ∧ w.cell? ⟨B, 2, none⟩ = some z) ∧ (w.frozen? ⟨B, 0, none⟩ = false ∧ w.frozen? ⟨B, 1, none⟩ = false ∧ w.frozen? ⟨B, 2, none⟩ = false) := by
  refine ⟨⟨?_, ?_, ?_⟩, ?_, ?_, ?_⟩
  · unfold World.cell?; simp only [r]; rfl
  · unfold World.cell?; simp only [r]; rfl
  · unfold World.cell?; simp only [r]; rfl
  · unfold World.frozen?; simp only [r]; simp
  · unfold World.frozen?; simp only [r]; simp
  · unfold World.frozen?; simp only [r]; simp
/-- a packet is stored whole -/
theorem pk_store {ops : Array Oper} {rest : List Oper} {o : Oper} {a : Act} {w : World} {Q : Exit → Act → World → Prop} (hgd : o.guard = none) (x y : Operand) (ho : o.op = .store 28 x y) (g : Nat) (old : Array Value) (c0 c1 c2 : Value) (hl : w.heap[g]? = some (.cells old 28 (0, 0))) (hold : old.size = 3)
    (hp : a.eval x = .pointer (some ⟨g, 0, none⟩)) (hv : a.eval y = .agg #[c0, c1, c2]) (h1 : c0.oneCell' = true ∧ c1.oneCell' = true ∧ c2.oneCell' = true)
    (h : ∀ w2 : World, Hid (w2.heap[g]? = some (.cells #[c0, c1, c2] 28 (0, 0))) → Chg g w w2 → wpList Try.prog ops Q rest (a.put o.dst undef) w2) : wpList Try.prog ops Q (o :: rest) a w :=
  wpList_store_row hgd 28 x y ho g _ hp hv 28 _ hl (by rw [info28]; rfl) (by rw [hold]; rfl) (by simp [h1]) (h _ (Lib.hid (setRow_heap _ _ _ _ _ _ hl)) ⟨rfl, rfl, rfl, by simp, fun k _ hk => setRow_other w g k _ hk⟩)
theorem results_pk {fn : Func} {p q r : Tmp} (h : fn.results = #[.cell p 28, .cell q 25, .tmp r]) (tmps : Array Value) (w : World) (g g' : Nat) (x y z c0 c1 e : Value) (hp : tmps.getD p undef = .pointer (some ⟨g, 0, none⟩)) (hq : tmps.getD q undef = .pointer (some ⟨g', 0, none⟩)) (he : tmps.getD r undef = e)
    (hg : w.heap[g]? = some (.cells #[x, y, z] 28 (0, 0))) (hg' : w.heap[g']? = some (.cells #[c0, c1] 25 (0, 0))) :
    (results fn tmps).run Try.prog w = .ok (.tuple #[.agg #[x, y, z], .agg #[c0, c1], e]) w := by
  have hp' : tmps[p]?.getD undef = .pointer (some ⟨g, 0, none⟩) := by simpa using hp
  have hq' : tmps[q]?.getD undef = .pointer (some ⟨g', 0, none⟩) := by simpa using hq
  have he' : tmps[r]?.getD undef = e := by simpa using he
  simp [results, h, hp', hq', he', asAddr, run_loadVar_row w g 28 28 #[x, y, z] (0, 0) _ hg Try.underlying28 rfl (by rw [info28]; rfl), run_loadVar_row w g' 25 25 #[c0, c1] (0, 0) _ hg' Try.underlying25 rfl (by rw [info25]; rfl)]
def delP (n : Nt) (a : Int) : Pk := if askE n a = 0 then (if cutB n (pkAt n a).1 (pkAt n a).2.1 = true then pk0 else pkAt n a) else pk0
structure Bx3 (w w1 : World) (a b x y z c d : Value) : Prop where
  c0 : w1.cell? ⟨w.heap.size, 0, none⟩ = some a
  c1 : w1.cell? ⟨w.heap.size, 1, none⟩ = some b
  p : w1.heap[w.heap.size + 1]? = some (.cells #[x, y, z] 28 (0, 0))
  r : w1.heap[w.heap.size + 2]? = some (.cells #[c, d] 25 (0, 0))
  hz : w.heap.size + 2 < w1.heap.size
  below : Below w.heap.size w w1
theorem bx3 (w : World) (a b x y z c d : Value) : Bx3 w (((w.alloc (.cells #[a, b] 25)).alloc (.cells #[x, y, z] 28)).alloc (.cells #[c, d] 25)) a b x y z c d := by
  have h := box3 w a b x y z c d
  refine ⟨h.c0, h.c1, ?_, h.r, by rw [h.hz]; omega, h.below⟩
  refine (heap_alloc_old ((w.alloc (.cells #[a, b] 25)).alloc (.cells #[x, y, z] 28)) _ (by simp)).trans ?_
  have := heap_alloc_new (w.alloc (.cells #[a, b] 25)) (.cells #[x, y, z] 28)
  rwa [World.size_alloc] at this
theorem Bx3.later {w w1 w2 : World} {a b x y z c d : Value} (h : Bx3 w w1 a b x y z c d) (hb : Below w1.heap.size w1 w2) : Bx3 w w2 a b x y z c d :=
  ⟨(bcells hb (by have := h.hz; omega) _).trans h.c0, (bcells hb (by have := h.hz; omega) _).trans h.c1, (hb.block _ (by have := h.hz; omega)).trans h.p, (hb.block _ h.hz).trans h.r, Nat.lt_of_lt_of_le h.hz hb.size, h.below.trans (hb.mono h.below.size)⟩
theorem Bx3.pk {w w1 w2 : World} {a b x y z c d x' y' z' : Value} (h : Bx3 w w1 a b x y z c d) (hp : w2.heap[w.heap.size + 1]? = some (.cells #[x', y', z'] 28 (0, 0))) (hc : Chg (w.heap.size + 1) w1 w2) : Bx3 w w2 a b x' y' z' c d :=
  ⟨(hc.cell (by have := h.hz; omega) (by omega)).trans h.c0, (hc.cell (by have := h.hz; omega) (by omega)).trans h.c1, hp, (hc.block _ h.hz (by omega)).trans h.r, Nat.lt_of_lt_of_le h.hz hc.size, Chg.below h.below h.below.size (by omega) hc⟩
theorem Bx3.drew {w w1 : World} {a b x y z c d : Value} (h : Bx3 w w1 a b x y z c d) : Bx3 w w1.drew a b x y z c d := ⟨h.c0, h.c1, h.p, h.r, h.hz, ⟨h.below.os, h.below.tape, h.below.output, h.below.size, h.below.block⟩⟩
theorem Bx3.set3 {w w1 : World} {a b x y z c d : Value} (h : Bx3 w w1 a b x y z c d) (x' y' z' : Value) : Bx3 w (((w1.setCell ⟨w.heap.size + 1, 0, none⟩ x').setCell ⟨w.heap.size + 1, 1, none⟩ y').setCell ⟨w.heap.size + 1, 2, none⟩ z') a b x' y' z' c d := h.pk (set3_row h.p) (set3_chg _ _ _ _ _)
/-- what is left to do: the packet and the rest are returned -/
theorem del_fin {w w2 w3 : World} {n' : Nt} {f t : Int} {l : List UInt8} {pu : Option Addr} {L cu : Nat} {c d : Value} {pq3 pa3 : Option Addr} {N3 cq3 M3 ca3 : Nat} {w1 : World} (hx : PKV (Lo F w) w (.agg #[.int .i64 f, .int .i64 t, .slice pu L cu]) (f, t, l)) (hz : w.heap.size + 2 < w1.heap.size)
    (hr : w2.heap[w.heap.size + 2]? = some (.cells #[c, d] 25 (0, 0))) (hb : Below w.heap.size w w2) (hv : NV (Nw (Lo F w) w1) w2 (nval pq3 N3 cq3 pa3 M3 ca3) n')
    (hc1 : Chg (w.heap.size + 1) w2 w3) {w4 : World} (hc2 : Chg (w.heap.size + 2) w3 w4) : RetP F (f, t, l) n' 0 w (.returned (.tuple #[.agg #[.int .i64 f, .int .i64 t, .slice pu L cu], nval pq3 N3 cq3 pa3 M3 ca3, .int .i64 0])) w4 := by
  have hs2 := (Array.getElem?_eq_some_iff.1 hr).1
  have hb3 : Below w.heap.size w w3 := Chg.below hb hb.size (by omega) hc1
  have hb4 : Below w.heap.size w w4 := Chg.below hb3 hb3.size (by omega) hc2
  exact ⟨_, _, rfl, (hx.below hb4).wid lo_wid, (hv.keep ((KeepF.of_chg hc1 (nw_not (by omega) (by omega))).trans (KeepF.of_chg hc2 (nw_not (by omega) (by omega))))).wid (nw_wid (by omega)), hb4⟩
set_option maxHeartbeats 4000000 in
theorem deliver_any (v : Value) (n : Nt) (a : Int) (w : World) (h : NV F w v n) : Calls Try.prog 20 #[v, .int .i64 a] w (RetP F (delP n a) (loseN n a) (askE n a) w) := by
  have hv := h.lo
  obtain ⟨pq, N, cq, pa, M, ca, rfl, HO, hq1, hq2, ha1, ha2⟩ := h.lo.op
  have HA : Hid (∀ w', Below w.heap.size w w' → Calls Try.prog 40 #[nval pq N cq pa M ca, .int .i64 a] w' (Ret (.int .i64 (askE n a)) w')) := Lib.hid fun w' hb => checkAt_any _ n a w' (HO.out.below hb).nv
  have HBX := Lib.hid (bx3 w (.slice pq N cq) (.slice pa M ca) (.int .i64 0) (.int .i64 0) (.slice none 0 0) (.slice none 0 0) (.slice none 0 0))
  rcases askE_cases n a with hE | hE | ⟨hE, hok, k, rfl, hk⟩
  rotate_left 2
  · obtain ⟨b, o, f, t, pu, L, cu, l, rfl, hbl, g0, g1, g2, HL, hu1, hu2, HW⟩ := HO.out.que.pkAt k hk
    unfold maxLen at hu2
    have hx : pkAt n (k : Int) = (f, t, l) := by unfold pkAt; rw [Int.toNat_natCast, HL.out.1]; rfl
    have HX : Hid (PKV (Lo F w) w (.agg #[.int .i64 f, .int .i64 t, .slice pu L cu]) (f, t, l)) := Lib.hid ⟨_, rfl, HW.out.1, HW.out.2, HL.out.2.2⟩
    have HD : Hid (delP n (k : Int) = if cutB n f t = true then pk0 else (f, t, l)) := Lib.hid (by unfold delP; rw [if_pos hE, hx])
    have HWO : Hid (∀ w', Below w.heap.size w w' → Calls Try.prog 42 #[nval (some ⟨b, o, none⟩) N cq pa M ca, .int .i64 (k : Int)] w' (RetO (Lo F w) (wo n k) w')) := Lib.hid fun w' hb => without_any _ n k w' (hv.below hb) hk (okN_len hok)
    have HLS : Hid (loseN n (k : Int) = wo n k) := Lib.hid (by unfold loseN; rw [if_pos hE]; rfl)
    have hkN : (k : Int) < (N : Int) := by rw [HO.out.nq] at hk; omega
    rw [hE] at HA ⊢
    clear h hv hE hok hk hx HL HW
    go_enter Try.func20, Try.ntmps20
    have HL := fun W (X : Later W) => link_below f t X.v
    have HCN : Hid (∀ w', Below w.heap.size w w' → Calls Try.prog 41 #[.slice pa M ca, lkv (mkL f t)] w' (Ret (.bool (cutB n f t)) w')) := Lib.hid fun w' hb => contains_any _ _ _ _ w' (HO.out.below hb).apa
    go_wp2_with (first
      | (go_at_call 40; refine (HA.out _ HBX.out.below).mono ?_; rintro e w1 ⟨rfl, hb1⟩; have HB1 := Lib.hid (HBX.out.later hb1); have c0 := HB1.out.c0; have d0 := (bcells HB1.out.below hbl _).trans g0; have d1 := (bcells HB1.out.below hbl _).trans g1; have d2 := (bcells HB1.out.below hbl _).trans g2; clear hb1)
      | (refine pk_store rfl (.tmp 4) (.tmp 19) rfl (w.heap.size + 1) _ _ _ _ HB1.out.p rfl rfl rfl ⟨rfl, rfl, rfl⟩ ?_; rintro w2 r2 hc2; have HB2 := Lib.hid (HB1.out.pk r2.out hc2)))
    clear g0 g1 g2 c0 d0 d1 d2 HA r2 hc2
    have hz2 := HB2.out.hz
    have C1 := Later.cell (by omega) HB2.out.c1
    have P0 := Later.cell (by omega) (row3_cells HB2.out.p).1.1
    have P1 := Later.cell (by omega) (row3_cells HB2.out.p).1.2.1
    have HL2 := Lib.hid (HL w2)
    have HC2 := Lib.hid (fun X : Later w2 => HCN.out X.v (HB2.out.below.trans (X.b.mono HB2.out.below.size)))
    clear HL HCN
    simp only [Act.put]
    refine wp_region_later (by kernel_rfl) (by kernel_rfl) ?_
    repeat (go_big_quiet_step (first | (go_at_call 36; exact Later.calls (HL2.out _)) | (go_at_call 41; exact Later.calls (HC2.out _))))
    refine wpQuiet_nil ?_
    intro _ hw'
    obtain ⟨X, hX⟩ := hw'
    subst hX
    have HB3 := Lib.hid (HB2.out.later X.b)
    clear HB2 HB1 HL2 HC2 C1 P0 P1 hz2
    obtain ⟨w3, hw3⟩ : ∃ w3, X.v = w3 := ⟨_, rfl⟩
    rw [hw3] at HB3 ⊢
    clear hw3 X
    cases hcut : cutB n f t
    · rw [hcut] at HD
      replace HD : Hid (delP n (k : Int) = (f, t, l)) := HD
      have hz := HB3.out.hz
      obtain ⟨⟨p0, p1, p2⟩, p3, p4, p5⟩ := row3_cells HB3.out.p
      have c0 := HB3.out.c0
      have c1 := HB3.out.c1
      clear hcut
      go_wp2_with fail
      go_region_with (first
        | (go_at_call 42; refine (HWO.out _ HB3.out.drew.below).mono ?_; rintro e w4 ⟨v4, rfl, hv4, hb4⟩; have HV := Lib.hid hv4; obtain ⟨pq3, N3, cq3, pa3, M3, ca3, rfl, HO3, hq3, hq3', ha3, ha3'⟩ := hv4.op; have HB4 := Lib.hid (HB3.out.drew.later hb4); obtain ⟨⟨x0, x1⟩, x2, x3⟩ := row2_cells HB4.out.r; obtain ⟨⟨q0, q1, q2⟩, q3, q4, q5⟩ := row3_cells HB4.out.p; have hz4 : w.heap.size + 2 < w4.heap.size := HB4.out.hz; clear hb4 hv4)
        | (go_at_call 42; refine (HWO.out _ (HB3.out.drew.set3 (.int .i64 f) (.int .i64 t) (.slice pu L cu)).below).mono ?_; rintro e w4 ⟨v4, rfl, hv4, hb4⟩; have HV := Lib.hid hv4; obtain ⟨pq3, N3, cq3, pa3, M3, ca3, rfl, HO3, hq3, hq3', ha3, ha3'⟩ := hv4.op; have HB4 := Lib.hid ((HB3.out.drew.set3 (.int .i64 f) (.int .i64 t) (.slice pu L cu)).later hb4); obtain ⟨⟨x0, x1⟩, x2, x3⟩ := row2_cells HB4.out.r; obtain ⟨⟨q0, q1, q2⟩, q3, q4, q5⟩ := row3_cells HB4.out.p; have hz4 : w.heap.size + 2 < w4.heap.size := HB4.out.hz; clear hb4 hv4))
      all_goals
        go_wp2_with fail
        first
          | exact bodyPost_ret (results_pk rfl _ _ _ _ _ _ _ _ _ _ rfl rfl rfl (((set2_chg _ _ _ _).block _ (by simp [World.setCell]; omega) (by omega)).trans (set3_row HB4.out.p)) (set2_row (((set3_chg _ _ _ _ _).block _ hz4 (by omega)).trans HB4.out.r))) rfl (by rw [HLS.out, HD.out]; exact del_fin HX.out (by have := HB3.out.hz; exact this) HB4.out.r HB4.out.below HV.out (set3_chg _ _ _ _ _) (set2_chg _ _ _ _))
          | exact bodyPost_ret (results_pk rfl _ _ _ _ _ _ _ _ _ _ rfl rfl rfl (((set2_chg _ _ _ _).block _ (by omega) (by omega)).trans HB4.out.p) (set2_row HB4.out.r)) rfl (by rw [HLS.out, HD.out]; exact del_fin HX.out (by have := HB3.out.hz; simpa [World.setCell] using this) HB4.out.r HB4.out.below HV.out (Chg.refl _ _) (set2_chg _ _ _ _))
    · rw [hcut] at HD
      replace HD : Hid (delP n (k : Int) = pk0) := HD
      have hz := HB3.out.hz
      clear hcut
      go_wp2_with (refine pk_store rfl (.tmp 4) (.tmp 28) rfl (w.heap.size + 1) _ _ _ _ HB3.out.p rfl rfl rfl ⟨rfl, rfl, rfl⟩ ?_; rintro w5 r5 hc5; have HB5 := Lib.hid (HB3.out.pk r5.out hc5))
      clear hz r5 hc5 HB3
      have hz := HB5.out.hz
      obtain ⟨⟨p0, p1, p2⟩, p3, p4, p5⟩ := row3_cells HB5.out.p
      have c0 := HB5.out.c0
      have c1 := HB5.out.c1
      simp only [Act.put]
      go_region_with (first
        | (go_at_call 42; refine (HWO.out _ HB5.out.drew.below).mono ?_; rintro e w4 ⟨v4, rfl, hv4, hb4⟩; have HV := Lib.hid hv4; obtain ⟨pq3, N3, cq3, pa3, M3, ca3, rfl, HO3, hq3, hq3', ha3, ha3'⟩ := hv4.op; have HB4 := Lib.hid (HB5.out.drew.later hb4); obtain ⟨⟨x0, x1⟩, x2, x3⟩ := row2_cells HB4.out.r; obtain ⟨⟨q0, q1, q2⟩, q3, q4, q5⟩ := row3_cells HB4.out.p; have hz4 : w.heap.size + 2 < w4.heap.size := HB4.out.hz; clear hb4 hv4)
        | (go_at_call 42; refine (HWO.out _ (HB5.out.drew.set3 (.int .i64 0) (.int .i64 0) (.slice none 0 0)).below).mono ?_; rintro e w4 ⟨v4, rfl, hv4, hb4⟩; have HV := Lib.hid hv4; obtain ⟨pq3, N3, cq3, pa3, M3, ca3, rfl, HO3, hq3, hq3', ha3, ha3'⟩ := hv4.op; have HB4 := Lib.hid ((HB5.out.drew.set3 (.int .i64 0) (.int .i64 0) (.slice none 0 0)).later hb4); obtain ⟨⟨x0, x1⟩, x2, x3⟩ := row2_cells HB4.out.r; obtain ⟨⟨q0, q1, q2⟩, q3, q4, q5⟩ := row3_cells HB4.out.p; have hz4 : w.heap.size + 2 < w4.heap.size := HB4.out.hz; clear hb4 hv4))
      all_goals
        go_wp2_with fail
        first
          | exact bodyPost_ret (results_pk rfl _ _ _ _ _ _ _ _ _ _ rfl rfl rfl (((set2_chg _ _ _ _).block _ (by simp [World.setCell]; omega) (by omega)).trans (set3_row HB4.out.p)) (set2_row (((set3_chg _ _ _ _ _).block _ hz4 (by omega)).trans HB4.out.r))) rfl (by rw [HLS.out, HD.out]; exact del_fin (zero_PKV (F := Lo F w) w) (by have := HB5.out.hz; exact this) HB4.out.r HB4.out.below HV.out (set3_chg _ _ _ _ _) (set2_chg _ _ _ _))
          | exact bodyPost_ret (results_pk rfl _ _ _ _ _ _ _ _ _ _ rfl rfl rfl (((set2_chg _ _ _ _).block _ (by omega) (by omega)).trans HB4.out.p) (set2_row HB4.out.r)) rfl (by rw [HLS.out, HD.out]; exact del_fin (zero_PKV (F := Lo F w) w) (by have := HB5.out.hz; simpa [World.setCell] using this) HB4.out.r HB4.out.below HV.out (Chg.refl _ _) (set2_chg _ _ _ _))
  all_goals
    have HN : Hid (loseN n a = zero ∧ delP n a = pk0) := Lib.hid ⟨by unfold loseN; rw [if_neg (by rw [hE]; decide)], by unfold delP; rw [if_neg (by rw [hE]; decide)]⟩
    rw [HN.out.1, HN.out.2]
    rw [hE] at HA ⊢
    clear h hv hE HN
    go_enter Try.func20, Try.ntmps20
    go_wp2_with (first
      | (go_at_call 40; refine (HA.out _ HBX.out.below).mono ?_; rintro e w1 ⟨rfl, hb1⟩; have HB1 := Lib.hid (HBX.out.later hb1); clear hb1)
      | (refine pk_store rfl (.tmp 4) (.tmp 12) rfl (w.heap.size + 1) _ _ _ _ HB1.out.p rfl rfl rfl ⟨rfl, rfl, rfl⟩ ?_; rintro w2 r2 hc2; have HB2 := Lib.hid (HB1.out.pk r2.out hc2))
      | (refine nt_store rfl (.tmp 5) (.tmp 13) rfl (w.heap.size + 1 + 1) _ _ _ HB2.out.r rfl rfl rfl ⟨rfl, rfl⟩ ?_; rintro w3 r3 hc3))
    exact bodyPost_ret (results_pk rfl _ _ _ _ _ _ _ _ _ _ rfl rfl rfl ((hc3.block _ (by have := HB2.out.hz; omega) (by omega)).trans r2.out) r3.out) rfl ⟨.agg #[.int .i64 0, .int .i64 0, .slice none 0 0], .agg #[.slice none 0 0, .slice none 0 0], rfl, zero_PKV _, zero_NV _, Chg.below HB2.out.below HB2.out.below.size (by omega) hc3⟩
end Go.Proofs.Ytpempgajejbdoaa
