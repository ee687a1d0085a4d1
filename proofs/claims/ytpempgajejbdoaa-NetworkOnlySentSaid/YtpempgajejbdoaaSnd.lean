/-
  Links: Send, the program's, on all links and packets.
-/
import Derived.Test.YtpempgajejbdoaaAdd
import Derived.Test.YtpempgajejbdoaaChn
namespace Go.Proofs.Ytpempgajejbdoaa
open Go Go.RowKit
variable {F : Nat → Prop}
def sendE (n : Nt) (x : Pk) : Int := if (okN n && pkB x) = true then addE n else 60
def sendN (n : Nt) (x : Pk) : Nt := if (okN n && pkB x) = true then addN n x else zero
/-- three boxes, later -/
theorem Box3.later {w W w1 : World} {a b x y z c d : Value} (h : Box3 w W a b x y z c d) (hb : Below W.heap.size W w1) :
    (w1.cell? ⟨w.heap.size, 0, none⟩ = some a ∧ w1.cell? ⟨w.heap.size, 1, none⟩ = some b) ∧ (w1.cell? ⟨w.heap.size + 1, 0, none⟩ = some x ∧ w1.cell? ⟨w.heap.size + 1, 1, none⟩ = some y ∧ w1.cell? ⟨w.heap.size + 1, 2, none⟩ = some z) ∧
    Hid (w1.heap[w.heap.size + 2]? = some (.cells #[c, d] 25 (0, 0))) ∧ w.heap.size + 2 < w1.heap.size ∧ Hid (Below w.heap.size w w1) := by
  have hz := h.hz
  have h1 := hb.size
  exact ⟨⟨(bcells hb (by omega) _).trans h.c0, (bcells hb (by omega) _).trans h.c1⟩, ⟨(bcells hb (by omega) _).trans h.p0, (bcells hb (by omega) _).trans h.p1, (bcells hb (by omega) _).trans h.p2⟩, Lib.hid ((hb.block _ (by omega)).trans h.r), by omega, Lib.hid (h.below.trans (hb.mono h.below.size))⟩
set_option maxHeartbeats 2000000 in
theorem send_any (v u : Value) (n : Nt) (x : Pk) (w : World) (h : NV F w v n) (hp : PKV F w u x) : Calls Try.prog 11 #[v, u] w (RetN F (sendN n x) (sendE n x) w) := by
  have hv := h.lo
  have hu := hp.lo
  obtain ⟨pq, N, cq, pa, M, ca, rfl, HO, hq1, hq2, ha1, ha2⟩ := h.lo.op
  obtain ⟨p, L, c, rfl, HX, hl1, hl2⟩ := hp.lo.open
  have HC : Hid (∀ w', Below w.heap.size w w' → Calls Try.prog 13 #[nval pq N cq pa M ca] w' (Ret (.int .i64 (chk n)) w')) := Lib.hid fun w' hb => check_any _ n w' (HO.out.below hb).nv
  have HP : Hid (∀ w', Below w.heap.size w w' → Calls Try.prog 28 #[.agg #[.int .i64 x.1, .int .i64 x.2.1, .slice p L c]] w' (Ret (.bool (pkB x)) w')) := Lib.hid fun w' hb => vpacket_any _ x w' (hu.below hb)
  have HA : Hid (okN n = true → ∀ w', Below w.heap.size w w' → Calls Try.prog 29 #[nval pq N cq pa M ca, .agg #[.int .i64 x.1, .int .i64 x.2.1, .slice p L c]] w' (RetN (Lo F w) (addN n x) (addE n) w')) := Lib.hid fun hok w' hb => added_any _ _ n x w' (hv.below hb) (hu.below hb) (okN_len hok)
  have HE : Hid (sendE n x = if (okN n && pkB x) = true then addE n else 60) := Lib.hid rfl
  have HN : Hid (sendN n x = if (okN n && pkB x) = true then addN n x else zero) := Lib.hid rfl
  have HBX := Lib.hid (box3 w (.slice pq N cq) (.slice pa M ca) (.int .i64 x.1) (.int .i64 x.2.1) (.slice p L c) (.slice none 0 0) (.slice none 0 0))
  clear h hp hv hu
  cases hok : okN n
  · rw [chk_no hok] at HC
    rw [hok] at HE HN
    clear hok
    go_enter Try.func11, Try.ntmps11
    go_wp2_with (first
      | (go_at_call 13; refine (HC.out _ HBX.out.below).mono ?_; rintro e w1 ⟨rfl, hb1⟩; obtain ⟨⟨c0, c1⟩, _, r, hz, HB⟩ := HBX.out.later hb1; clear hb1)
      | (refine nt_store rfl (.tmp 4) (.tmp 14) rfl (w.heap.size + 1 + 1) _ _ _ r.out rfl rfl rfl ⟨rfl, rfl⟩ ?_; rintro w2 r2 hc2))
    refine bodyPost_ret (results_nt rfl _ _ _ _ _ _ rfl rfl r2.out) rfl ⟨.agg #[.slice none 0 0, .slice none 0 0], by rw [HE.out]; rfl, ?_, Chg.below HB.out HB.out.size (by omega) hc2⟩
    rw [HN.out]
    exact zero_NV _
  rw [chk_ok hok] at HC
  replace HA := HA.out hok
  have HA := Lib.hid HA
  rw [hok] at HE HN
  clear hok
  cases hpk : pkB x
  · rw [hpk] at HP HE HN
    clear hpk
    go_enter Try.func11, Try.ntmps11
    go_wp2_with (first
      | (go_at_call 13; refine (HC.out _ HBX.out.below).mono ?_; rintro e w1 ⟨rfl, hb1⟩; obtain ⟨⟨c0, c1⟩, ⟨p0, p1, p2⟩, r, hz, HB⟩ := HBX.out.later hb1; clear hb1)
      | (go_at_call 28; refine (HP.out _ HB.out).mono ?_; rintro e w2 ⟨rfl, hb2⟩; have r' := Lib.hid ((hb2.block _ hz).trans r.out); have HB' := Lib.hid (HB.out.trans (hb2.mono HB.out.size)); clear hb2)
      | (refine nt_store rfl (.tmp 4) (.tmp 14) rfl (w.heap.size + 1 + 1) _ _ _ r'.out rfl rfl rfl ⟨rfl, rfl⟩ ?_; rintro w3 r2 hc2))
    refine bodyPost_ret (results_nt rfl _ _ _ _ _ _ rfl rfl r2.out) rfl ⟨.agg #[.slice none 0 0, .slice none 0 0], by rw [HE.out]; rfl, ?_, Chg.below HB'.out HB'.out.size (by omega) hc2⟩
    rw [HN.out]
    exact zero_NV _
  rw [hpk] at HP HE HN
  replace HE : Hid (sendE n x = addE n) := HE
  replace HN : Hid (sendN n x = addN n x) := HN
  clear hpk
  generalize addE n = E at HA HE
  go_enter Try.func11, Try.ntmps11
  go_wp2_with (first
    | (go_at_call 13; refine (HC.out _ HBX.out.below).mono ?_; rintro e w1 ⟨rfl, hb1⟩; obtain ⟨⟨c0, c1⟩, ⟨p0, p1, p2⟩, r, hz, HB⟩ := HBX.out.later hb1; clear hb1)
    | (go_at_call 28; refine (HP.out _ HB.out).mono ?_; rintro e w2 ⟨rfl, hb2⟩; have c0' := (bcells hb2 (by omega) _).trans c0; have c1' := (bcells hb2 (by omega) _).trans c1; have p0' := (bcells hb2 (by omega) _).trans p0; have p1' := (bcells hb2 (by omega) _).trans p1; have p2' := (bcells hb2 (by omega) _).trans p2; have r' := Lib.hid ((hb2.block _ hz).trans r.out); have HB' := Lib.hid (HB.out.trans (hb2.mono HB.out.size)); have hz' : w.heap.size + 2 < w2.heap.size := (by have := hb2.size; omega); clear hb2)
    | (go_at_call 29; refine (HA.out _ HB'.out).mono ?_; rintro e w3 ⟨v3, rfl, hv3, hb3⟩; have HV := Lib.hid hv3; obtain ⟨pq3, N3, cq3, pa3, M3, ca3, rfl, HO3, hq3, hq3', ha3, ha3'⟩ := hv3.op; have r3 := Lib.hid ((hb3.block _ hz').trans r'.out); have HB3 := Lib.hid (HB'.out.trans (hb3.mono HB'.out.size)); clear hb3 hv3)
    | (refine nt_store rfl (.tmp 4) (.tmp 18) rfl (w.heap.size + 1 + 1) _ _ _ r3.out rfl rfl rfl ⟨rfl, rfl⟩ ?_; rintro w4 r2 hc2))
  refine bodyPost_ret (results_nt rfl _ _ _ _ _ _ rfl rfl r2.out) rfl ⟨_, by rw [HE.out]; rfl, ?_, Chg.below HB3.out HB3.out.size (by omega) hc2⟩
  rw [HN.out]
  exact (HV.out.keep (KeepF.of_chg hc2 (nw_not (by omega) (by omega)))).wid (nw_wid (by have := HB'.out.size; omega))
end Go.Proofs.Ytpempgajejbdoaa
