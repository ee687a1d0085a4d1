/-
  Disks: the reference's Same, on every two disks.
-/
import Derived.Test.YtanmhjbeookfiaaFew
import Derived.Test.YtanmhjbeookfiaaChecked
import Derived.Lib.SmallJoins
import Derived.Deep.Slices
namespace Go.Proofs.Ytanmhjbeookfiaa
open Go Go.RowKit
theorem strOf_byt (l : List UInt8) : strOfNums (l.map fun c => (c.toNat : Int)) = ⟨l.toArray⟩ := by
  unfold strOfNums
  rw [List.map_map]
  congr 2
  induction l with
  | nil => rfl
  | cons c l ih => rw [List.map_cons, ih]; simp
theorem bv_string {w : World} {p : Option Addr} {N cap : Nat} {l : List UInt8} (h : BV w (.slice p N cap) l) : (convert 35 9 (.slice p N cap)).run Try.prog w = .ok (.string ⟨l.toArray⟩) w := by
  obtain ⟨b, cap', p', hv, h1, h2, h3, h4⟩ := h
  cases hv
  rcases h4 with rfl | ⟨o, rfl, c2, c3⟩
  · change (convert 35 9 (.slice p 0 cap)).run Try.prog w = _
    rw [run_convert_bytes_string w 35 9 5 p 0 cap Try.underlying35 (by kernel_rfl) Try.underlying9]
    cases p
    · simp [Conv.bytesToString]
      rfl
    · have hl : ∀ a : Addr, (loadCells a 0).run Try.prog w = .ok #[] w := fun a => by
        have := run_loadCells_list (P := Try.prog) w a [] (fun j v hj => by simp at hj)
        simpa using this
      simp [Conv.bytesToString, hl]
      rfl
  · rw [← strOf_byt]
    refine run_convert_bytes_arg w 35 5 Try.underlying35 (by kernel_rfl) b o l.length cap (l.map fun c => (c.toNat : Int)) (by simp) (fun i hi => ?_) 9 Try.underlying9
    rw [c3 i _ (List.getElem?_eq_getElem hi)]
    simp [byt, List.getD, List.getElem?_eq_getElem hi]
/-- are two disks equal? -/
def sameD (d e : D) : Bool := decide (d.s = e.s) && (decide (d.p = e.p) && (decide (d.left = e.left) && decide (d.st = e.st)))
theorem sameD_no {d e : D} (h : ¬(d.s.length = e.s.length ∧ d.p.length = e.p.length ∧ d.left = e.left ∧ d.st = e.st)) : sameD d e = false := by
  cases he : sameD d e with
  | false => rfl
  | true =>
    exfalso
    simp only [sameD, Bool.and_eq_true, decide_eq_true_eq] at he
    exact h ⟨by rw [he.1], by rw [he.2.1], he.2.2.1, he.2.2.2⟩
abbrev two (w : World) (d : D) (ps : Option Addr) (N cs : Nat) (pp : Option Addr) (M cp : Nat) (d' : D) (ps' : Option Addr) (N' cs' : Nat) (pp' : Option Addr) (M' cp' : Nat) : World := dbox (dbox w d ps N cs pp M cp) d' ps' N' cs' pp' M' cp'
set_option maxHeartbeats 1000000 in
theorem same_no {w : World} {d d' : D} {ps ps' pp pp' : Option Addr} {N N' cs cs' M M' cp cp' : Nat} (hs1 : N ≤ 9223372036854775807) (hs1' : N' ≤ 9223372036854775807) (hp1 : M ≤ 9223372036854775807) (hp1' : M' ≤ 9223372036854775807)
    (hno : Hid (¬(N = N' ∧ M = M' ∧ d.left = d'.left ∧ d.st = d'.st))) : Calls Try.prog 14 #[dval d ps N cs pp M cp, dval d' ps' N' cs' pp' M' cp'] w (Ret (.bool false) w) := by
  go_enter Try.func14, Try.ntmps14
  go_wp2_with fail
  all_goals first
    | (go_ret; exact ⟨rfl, two_below _ _ _⟩)
    | (exfalso; refine hno.out ⟨?_, ?_, ?_, ?_⟩ <;> first | assumption | omega | (have h := ‹(!d.st == d'.st) = false›; simpa using h))
theorem boxed2 {w wr : World} {a b c d a' b' c' d' : Value} {T T' : TypeId} {m : Nat} (hm : w.heap.size + 1 < m) (hb : Below m ((w.alloc (.cells #[a, b, c, d] T)).alloc (.cells #[a', b', c', d'] T')) wr) :
    (wr.cell? ⟨w.heap.size, 0, none⟩ = some a ∧ wr.cell? ⟨w.heap.size, 1, none⟩ = some b) ∧ (wr.cell? ⟨w.heap.size + 1, 0, none⟩ = some a' ∧ wr.cell? ⟨w.heap.size + 1, 1, none⟩ = some b') := by
  refine ⟨⟨?_, ?_⟩, ?_, ?_⟩ <;> (rw [hb.cell (by simp; omega)]; go_simp)
theorem ne_of {l l' : List UInt8} (h : (!l == l') = true) : l ≠ l' := by simpa using h
theorem eq_of {l l' : List UInt8} (h : (!l == l') = false) : l = l' := by simpa using h
theorem take_same {α : Type} {s s' : List α} {k : Nat} {x y : α} (h : s.take k = s'.take k) (hx : s[k]? = some x) (hy : s'[k]? = some y) (e : x = y) : s.take (k + 1) = s'.take (k + 1) := by
  rw [List.take_add_one, List.take_add_one, h, hx, hy, e]
theorem same_at {α : Type} {s s' : List α} {k : Nat} {x y : α} (hx : s[k]? = some x) (hy : s'[k]? = some y) (e : x ≠ y) : s ≠ s' := fun h => by
  subst h
  rw [hx] at hy
  exact e (Option.some.inj hy)
theorem sameD_s {d e : D} (h : d.s ≠ e.s) : sameD d e = false := by unfold sameD; simp [h]
theorem sameD_p {d e : D} (h : d.p ≠ e.p) : sameD d e = false := by unfold sameD; simp [h]
set_option maxHeartbeats 1000000 in
theorem same_yes {w : World} {d d' : D} {ps ps' pp pp' : Option Addr} {N cs cs' M cp cp' : Nat} (hs1 : N ≤ cs) (hs2 : cs ≤ 9223372036854775807) (hp1 : M ≤ cp) (hp2 : cp ≤ 9223372036854775807) (hs1' : N ≤ cs') (hs2' : cs' ≤ 9223372036854775807) (hp1' : M ≤ cp') (hp2' : cp' ≤ 9223372036854775807)
    (hl : Hid (d.left = d'.left)) (hst : Hid (d.st = d'.st)) (HO : Hid (Op w d ps N cs pp M cp)) (HO' : Hid (Op w d' ps' N cs' pp' M cp')) :
    Calls Try.prog 14 #[dval d ps N cs pp M cp, dval d' ps' N cs' pp' M cp'] w (Ret (.bool (sameD d d')) w) := by
  have e1 : (d.left != d'.left) = false := by rw [hl.out]; simp
  have e2 : (!d.st == d'.st) = false := by rw [hst.out]; simp
  go_enter Try.func14, Try.ntmps14
  go_wp2_with fail
  clear e1 e2
  go_loopw [5] (fun i wr => ∃ k : Nat, k ≤ N ∧ i = .int .i64 k ∧ Hid (d.s.take k = d'.s.take k) ∧ Below (w.heap.size + 2) (two w d ps N cs pp M cp d' ps' N cs' pp' M cp') wr) (fun i _ => N - (intOf i).toNat)
  case atStart => exact ⟨0, Nat.zero_le _, rfl, Lib.hid (by simp), Below.refl _ _⟩
  case round =>
    obtain ⟨k, hk, rfl, HA, hb⟩ := hrel
    obtain ⟨⟨c0, c1⟩, d0, d1⟩ := boxed2 (by omega) hb
    have hb2 : Below w.heap.size w wr := (two_below _ _ _).trans (hb.mono (by omega))
    have hz : w.heap.size + 1 < wr.heap.size := by have := hb.size; simp at this; omega
    by_cases hlt : k < N
    · obtain ⟨b, o, pu, L, cu, l, rfl, hbl, g0, HL, hu1, hu2⟩ := (HO.out.below hb2).secAt k hlt
      obtain ⟨b', o', pu', L', cu', l', rfl, hbl', g0', HL', hu1', hu2'⟩ := (HO'.out.below hb2).secAt k hlt
      have C0 := Later.cell (by omega) c0
      have D0 := Later.cell hz d0
      have G0 := Later.cell hbl g0
      have G0' := Later.cell hbl' g0'
      have S1 := fun x : Later wr => bv_string (HL.out.2.2.below x.b)
      have S2 := fun x : Later wr => bv_string (HL'.out.2.2.below x.b)
      go_wp2_with fail
      refine wp_region_later (by kernel_rfl) (by kernel_rfl) ?_
      repeat (go_big_quiet_step (fail))
      refine wpQuiet_nil ?_
      intro _ hw'
      obtain ⟨x, hx⟩ := hw'
      subst hx
      have hb3 : Below w.heap.size w x.v := hb2.trans (x.b.mono (by omega))
      have hb4 := hb.trans (x.b.mono (by omega))
      clear C0 D0 G0 G0' S1 S2 c0 c1 d0 d1 g0 g0'
      go_wp2_with fail
      · have HE := Lib.hid (sameD_s (same_at HL.out.1 HL'.out.1 (ne_of ‹(!l == l') = true›)))
        go_ret
        exact ⟨ret_bool HE.out.symm, hb3⟩
      · have HE := Lib.hid (eq_of ‹(!l == l') = false›)
        go_roundw
        case rel => exact ⟨k + 1, by omega, by go_num, Lib.hid (take_same HA.out HL.out.1 HL'.out.1 HE.out), hb4⟩
        case measure => simp [intOf]; omega
    · have HS : Hid (d.s = d'.s) := Lib.hid (by
        have h := HA.out
        rw [List.take_of_length_le (by rw [HO.out.n]; omega), List.take_of_length_le (by rw [HO'.out.n]; omega)] at h
        exact h)
      go_wp2_with fail
      go_loopw [6] (fun i wr => ∃ k : Nat, k ≤ M ∧ i = .int .i64 k ∧ Hid (d.p.take k = d'.p.take k) ∧ Below (w.heap.size + 2) (two w d ps N cs pp M cp d' ps' N cs' pp' M cp') wr) (fun i _ => M - (intOf i).toNat)
      case atStart => exact ⟨0, Nat.zero_le _, rfl, Lib.hid (by simp), hb⟩
      case round =>
        clear hb hb2 hz c0 c1 d0 d1 hlt hk HA
        obtain ⟨k, hk, rfl, HA, hb⟩ := hrel
        obtain ⟨⟨c0, c1⟩, d0, d1⟩ := boxed2 (by omega) hb
        have hb2 : Below w.heap.size w wr := (two_below _ _ _).trans (hb.mono (by omega))
        have hz : w.heap.size + 1 < wr.heap.size := by have := hb.size; simp at this; omega
        by_cases hlt : k < M
        · obtain ⟨b, o, n, pu, L, cu, l, rfl, hbl, g0, g1, HL, hu1, hu2, hw⟩ := (HO.out.below hb2).penAt k hlt
          obtain ⟨b', o', n', pu', L', cu', l', rfl, hbl', g0', g1', HL', hu1', hu2', hw'⟩ := (HO'.out.below hb2).penAt k hlt
          have C1 := Later.cell (by omega) c1
          have D1 := Later.cell hz d1
          have G0 := Later.cell hbl g0
          have G1 := Later.cell hbl g1
          have G0' := Later.cell hbl' g0'
          have G1' := Later.cell hbl' g1'
          have S1 := fun x : Later wr => bv_string (HL.out.2.2.below x.b)
          have S2 := fun x : Later wr => bv_string (HL'.out.2.2.below x.b)
          by_cases hnn : n = n'
          · have hn1 : (n != n') = false := by simp [hnn]
            have HN := Lib.hid hnn
            clear hnn
            go_wp2_with fail
            refine wp_region_later (by kernel_rfl) (by kernel_rfl) ?_
            repeat (go_big_quiet_step (fail))
            refine wpQuiet_nil ?_
            intro _ hw'
            obtain ⟨x, hx⟩ := hw'
            subst hx
            have hb3 : Below w.heap.size w x.v := hb2.trans (x.b.mono (by omega))
            have hb4 := hb.trans (x.b.mono (by omega))
            clear C1 D1 G0 G0' G1 G1' S1 S2 c0 c1 d0 d1 g0 g0' g1 g1'
            go_wp2_with fail
            · have HE := Lib.hid (sameD_p (same_at HL.out.1 HL'.out.1 (fun h => ne_of ‹(!l == l') = true› (Prod.mk.inj h).2)))
              go_ret
              exact ⟨ret_bool HE.out.symm, hb3⟩
            · have HE := Lib.hid (eq_of ‹(!l == l') = false›)
              go_roundw
              case rel => exact ⟨k + 1, by omega, by go_num, Lib.hid (take_same HA.out HL.out.1 HL'.out.1 (by rw [HN.out, HE.out])), hb4⟩
              case measure => simp [intOf]; omega
          · have hn1 : (n != n') = true := by simp [hnn]
            have HE := Lib.hid (sameD_p (same_at HL.out.1 HL'.out.1 (fun h => hnn (Prod.mk.inj h).1)))
            clear hnn
            go_wp2_with fail
            refine wp_region_later (by kernel_rfl) (by kernel_rfl) ?_
            repeat (go_big_quiet_step (fail))
            refine wpQuiet_nil ?_
            intro _ hw'
            obtain ⟨x, hx⟩ := hw'
            subst hx
            have hb3 : Below w.heap.size w x.v := hb2.trans (x.b.mono (by omega))
            clear C1 D1 G0 G0' G1 G1' S1 S2 c0 c1 d0 d1 g0 g0' g1 g1'
            go_wp2_with fail
            go_ret
            exact ⟨ret_bool HE.out.symm, hb3⟩
        · have HP : Hid (d.p = d'.p) := Lib.hid (by
            have h := HA.out
            rw [List.take_of_length_le (by rw [HO.out.m]; omega), List.take_of_length_le (by rw [HO'.out.m]; omega)] at h
            exact h)
          go_wp2_with fail
          go_ret
          exact ⟨ret_bool (by unfold sameD; rw [HS.out, HP.out, hl.out, hst.out]; simp), hb2⟩
theorem same_any (v v' : Value) (d d' : D) (w : World) (h : DV w v d) (h' : DV w v' d') : Calls Try.prog 14 #[v, v'] w (Ret (.bool (sameD d d')) w) := by
  obtain ⟨ps, N, cs, pp, M, cp, rfl, HO, hs1, hs2, hp1, hp2⟩ := h.op
  obtain ⟨ps', N', cs', pp', M', cp', rfl, HO', hs1', hs2', hp1', hp2'⟩ := h'.op
  by_cases hq : N = N' ∧ M = M' ∧ d.left = d'.left ∧ d.st = d'.st
  · obtain ⟨rfl, rfl, hl, hst⟩ := hq
    exact same_yes hs1 hs2 hp1 hp2 hs1' hs2' hp1' hp2' (Lib.hid hl) (Lib.hid hst) HO HO'
  · rw [sameD_no (by rw [HO.out.n, HO.out.m, HO'.out.n, HO'.out.m]; exact hq)]
    exact same_no (by omega) (by omega) (by omega) (by omega) (Lib.hid hq)
theorem sameD_self (d : D) : sameD d d = true := by unfold sameD; simp
end Go.Proofs.Ytanmhjbeookfiaa
