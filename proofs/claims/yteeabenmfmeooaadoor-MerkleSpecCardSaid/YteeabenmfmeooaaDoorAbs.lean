/-
  Digest: a block is absorbed.
-/
import Derived.Test.YteeabenmfmeooaaDoorSch
import Derived.RegionTactic
namespace Go.Proofs.YteeabenmfmeooaaDoor
open Go Go.RowKit
/-- the eight words of a round -/
structure R8 where
  a : Int
  b : Int
  c : Int
  d : Int
  e : Int
  f : Int
  g : Int
  h : Int
/-- the numbers K -/
def kcs : List Int := [1116352408, 1899447441, 3049323471, 3921009573, 961987163, 1508970993, 2453635748, 2870763221, 3624381080, 310598401, 607225278, 1426881987, 1925078388, 2162078206, 2614888103, 3248222580, 3835390401, 4022224774, 264347078, 604807628, 770255983, 1249150122, 1555081692, 1996064986, 2554220882, 2821834349, 2952996808, 3210313671, 3336571891, 3584528711, 113926993, 338241895, 666307205, 773529912, 1294757372, 1396182291, 1695183700, 1986661051, 2177026350, 2456956037, 2730485921, 2820302411, 3259730800, 3345764771, 3516065817, 3600352804, 4094571909, 275423344, 430227734, 506948616, 659060556, 883997877, 958139571, 1322822218, 1537002063, 1747873779, 1955562222, 2024104815, 2227730452, 2361852424, 2428436474, 2756734187, 3204031479, 3329325298]
def kc (t : Nat) : Int := kcs.getD t 0
/-- they lie in their variable -/
structure KOK (w : World) : Prop where
  lt : 0 < w.heap.size
  cells : ∀ t, t < 64 → w.cell? ⟨0, t, none⟩ = some (.int .u32 (kc t))
theorem KOK.chg {w w' : World} {g : Nat} (h : KOK w) (hc : Chg g w w') (hg : 0 < g) : KOK w' :=
  ⟨Nat.lt_of_lt_of_le h.lt hc.size, fun t ht => (hc.cell h.lt (by omega)).trans (h.cells t ht)⟩
theorem KOK.below {w w' : World} (h : KOK w) (hb : Below w.heap.size w w') : KOK w' :=
  ⟨Nat.lt_of_lt_of_le h.lt hb.size, fun t ht => (hb.cell (p := ⟨0, t, none⟩) h.lt).trans (h.cells t ht)⟩
def pp (k w : Int) (s : R8) : Int :=
  (s.h + bits .xor .u32 (bits .xor .u32 (rotr s.e 6) (rotr s.e 11)) (rotr s.e 25) + bits .xor .u32 (bits .and .u32 s.e s.f) (bits .and .u32 (bits .xor .u32 IntKind.u32.max s.e) s.g) + k + w) % 4294967296
def qq (s : R8) : Int :=
  (bits .xor .u32 (bits .xor .u32 (rotr s.a 2) (rotr s.a 13)) (rotr s.a 22) + bits .xor .u32 (bits .xor .u32 (bits .and .u32 s.a s.b) (bits .and .u32 s.a s.c)) (bits .and .u32 s.b s.c)) % 4294967296
def rnd (k w : Int) (s : R8) : R8 := ⟨(pp k w s + qq s) % 4294967296, s.a, s.b, s.c, (s.d + pp k w s) % 4294967296, s.e, s.f, s.g⟩
def rnds (ws : List Int) (s : R8) : Nat → R8
  | 0 => s
  | t + 1 => rnd (kc t) (ws.getD t 0) (rnds ws s t)
theorem rnds_succ (ws : List Int) (s : R8) (t : Nat) : rnds ws s (t + 1) = rnd (kc t) (ws.getD t 0) (rnds ws s t) := rfl
def cells8 (s : R8) : Array Value := #[.int .u32 s.a, .int .u32 s.b, .int .u32 s.c, .int .u32 s.d, .int .u32 s.e, .int .u32 s.f, .int .u32 s.g, .int .u32 s.h]
def nth8 (s : R8) : Nat → Int
  | 0 => s.a | 1 => s.b | 2 => s.c | 3 => s.d | 4 => s.e | 5 => s.f | 6 => s.g | _ => s.h
theorem lt8 {k : Nat} (h : k < 8) : k = 0 ∨ k = 1 ∨ k = 2 ∨ k = 3 ∨ k = 4 ∨ k = 5 ∨ k = 6 ∨ k = 7 := by omega
theorem cells8_get (s : R8) {k : Nat} (h : k < 8) : (cells8 s)[k]? = some (.int .u32 (nth8 s k)) := by
  rcases lt8 h with rfl | rfl | rfl | rfl | rfl | rfl | rfl | rfl <;> rfl
theorem index8 (s : R8) {k : Nat} (h : k < 8) (w : World) : (Instr.index 73 (.agg (cells8 s)) (.int .i64 (k : Int))).run Tryd.prog w = .ok (.int .u32 (nth8 s k)) w := by
  rcases lt8 h with rfl | rfl | rfl | rfl | rfl | rfl | rfl | rfl <;> rfl
/-- the sum's first words -/
def mix (k : Nat) (y x : R8) : R8 :=
  ⟨if 0 < k then (y.a + x.a) % 4294967296 else y.a, if 1 < k then (y.b + x.b) % 4294967296 else y.b, if 2 < k then (y.c + x.c) % 4294967296 else y.c, if 3 < k then (y.d + x.d) % 4294967296 else y.d,
    if 4 < k then (y.e + x.e) % 4294967296 else y.e, if 5 < k then (y.f + x.f) % 4294967296 else y.f, if 6 < k then (y.g + x.g) % 4294967296 else y.g, if 7 < k then (y.h + x.h) % 4294967296 else y.h⟩
theorem mix_nth (y x : R8) {k : Nat} (h : k < 8) : nth8 (mix k y x) k = nth8 y k := by
  rcases lt8 h with rfl | rfl | rfl | rfl | rfl | rfl | rfl | rfl <;> rfl
theorem mix_set (y x : R8) {k : Nat} (h : k < 8) : (cells8 (mix k y x)).setIfInBounds k (.int .u32 ((nth8 y k + nth8 x k) % 4294967296)) = cells8 (mix (k + 1) y x) := by
  rcases lt8 h with rfl | rfl | rfl | rfl | rfl | rfl | rfl | rfl <;> rfl
theorem mix_zero (y x : R8) : mix 0 y x = y := rfl
/-- the words of a state lie in block g -/
def St (w : World) (g : Nat) (s : R8) : Prop := w.heap[g]? = some (.cells (cells8 s) 75 (0, 0))
theorem St.keep {w w' : World} {g : Nat} {s : R8} (hs : St w g s) (hk : w'.heap[g]? = w.heap[g]?) : St w' g s := hk.trans hs
theorem St.lt {w : World} {g : Nat} {s : R8} (hs : St w g s) : g < w.heap.size := (Array.getElem?_eq_some_iff.1 hs).1
theorem St.cell {w : World} {g : Nat} {s : R8} (hs : St w g s) {k : Nat} (h : k < 8) : w.cell? ⟨g, k, none⟩ = some (.int .u32 (nth8 s k)) := by
  unfold St at hs
  have := cells8_get s h
  simp [World.cell?, hs, this]
theorem St.free {w : World} {g : Nat} {s : R8} (hs : St w g s) (i : Nat) : w.frozen? ⟨g, i, none⟩ = false := by
  unfold St at hs
  simp [World.frozen?, hs]
theorem St.cells {w : World} {g : Nat} {s : R8} (hs : St w g s) : (w.cell? ⟨g, 0, none⟩ = some (.int .u32 s.a) ∧ w.cell? ⟨g, 1, none⟩ = some (.int .u32 s.b) ∧ w.cell? ⟨g, 2, none⟩ = some (.int .u32 s.c) ∧ w.cell? ⟨g, 3, none⟩ = some (.int .u32 s.d)) ∧
    w.cell? ⟨g, 4, none⟩ = some (.int .u32 s.e) ∧ w.cell? ⟨g, 5, none⟩ = some (.int .u32 s.f) ∧ w.cell? ⟨g, 6, none⟩ = some (.int .u32 s.g) ∧ w.cell? ⟨g, 7, none⟩ = some (.int .u32 s.h) :=
  ⟨⟨hs.cell (by decide), hs.cell (by decide), hs.cell (by decide), hs.cell (by decide)⟩, hs.cell (by decide), hs.cell (by decide), hs.cell (by decide), hs.cell (by decide)⟩
theorem St.step {w : World} {g k : Nat} {y x : R8} (hs : St w g (mix k y x)) (h : k < 8) : St (w.setCell ⟨g, k, none⟩ (.int .u32 ((nth8 y k + nth8 x k) % 4294967296))) g (mix (k + 1) y x) := by
  unfold St at hs ⊢
  simp only [World.setCell, Array.getElem?_modify, hs]
  simp [mix_set y x h]
theorem chg_row (w : World) (g : Nat) (cs : Array Value) : Chg g w (w.setRow g cs) := ⟨rfl, rfl, rfl, by simp, fun k _ hk => setRow_other w g k cs hk⟩
theorem lay_store2 {ops : Array Oper} {rest : List Oper} {o : Oper} {a : Act} {w : World} {Q : Exit → Act → World → Prop} (hgd : o.guard = none) (x y : Operand) (ho : o.op = .store 76 x y) (g : Nat) (ys xs : List Int) (hl : Lay w g ys) (hy : ys.length ≤ 64) (hx : xs.length = 64)
    (hp : a.eval x = .pointer (some ⟨g, 0, none⟩)) (hv : a.eval y = .agg (arr xs)) (h : ∀ w2 : World, Lay w2 g xs → Chg g w w2 → wpList Tryd.prog ops Q rest (a.put o.dst undef) w2) : wpList Tryd.prog ops Q (o :: rest) a w :=
  lay_store hgd x y ho g ys xs hl hy hx hp hv (h _ (setRow_heap _ _ _ _ _ _ hl) (chg_row _ _ _))
set_option maxRecDepth 100000 in
set_option maxHeartbeats 1000000 in
theorem absorb_any (g b o : Nat) (f : Nat → Int) (y : R8) (cap : Nat) (w : World) (hcap : 64 ≤ cap) (hcap2 : cap ≤ 9223372036854775807) (hf : ∀ k, 0 ≤ f k ∧ f k < 256) (hb : b < w.heap.size) (_hbg : b ≠ g) (hc : ∀ k, k < 64 → w.cell? ⟨b, o + k, none⟩ = some (.int .u8 (f k)))
    (hs : St w g y) (hk0 : KOK w) (hg0 : 0 < g) :
    Calls Tryd.prog 36 #[.pointer (some ⟨g, 0, none⟩), .slice (some ⟨b, o, none⟩) 64 cap] w fun e w' => e = .returned (.tuple #[]) ∧ St w' g (mix 8 y (rnds (sched f 64) y 64)) ∧ Chg g w w' := by
  have HW := Lib.hid (sched_any b o f cap w hcap hcap2 hf hb hc)
  have HST := Lib.hid hs
  have HK := Lib.hid hk0
  have hg : g < w.heap.size := (Array.getElem?_eq_some_iff.1 hs).1
  clear hc hf hs hk0
  go_enter Tryd.func36, Tryd.ntmps36
  go_wp2_with fail
  refine HW.out.mono ?_
  rintro e w1 ⟨rfl, hb1⟩
  have hl0 : ∀ x : Obj, x = .cells (arr []) 76 → Lay (w1.alloc x) w1.heap.size [] := fun x hx => by rw [hx]; exact heap_alloc_new _ _
  have HL0 := Lib.hid hl0
  clear hl0 HW
  have hz1 := hb1.size
  go_wp2_with (refine lay_store2 rfl (.tmp 4) (.tmp 19) rfl w1.heap.size [] (sched f 64) (HL0.out _ rfl) (Nat.zero_le _) (sched_len f 64) rfl rfl ?_; rintro w2 hl2 hc2)
  have hst2 : St w2 g y := by
    have h1 : St w1 g y := HST.out.keep (hb1.block g hg)
    refine h1.keep ?_
    rw [hc2.block g (by simp; omega) (by omega), Below.heap_alloc _ _ _ (by omega)]
  have hch2 : Chg g w w2 := (Chg.of_below hb1).trans ⟨hc2.os, hc2.tape, hc2.output, by have := hc2.size; simp at this; omega, fun k hk _ => by rw [hc2.block k (by simp; omega) (by omega), Below.heap_alloc _ _ _ (by omega)]⟩
  have HL := Lib.hid hl2
  have HS := Lib.hid hst2
  obtain ⟨⟨s0, s1, s2, s3⟩, s4, s5, s6, s7⟩ := hst2.cells
  clear hl2 hst2 hc2 HL0 HST hb1
  go_quiet (fail)
  have hl3 : Lay (w2.drewN nq) w1.heap.size (sched f 64) := HL.out
  have hst3 : St (w2.drewN nq) g y := HS.out
  have hch3 : Chg g w (w2.drewN nq) := ⟨hch2.os, hch2.tape, hch2.output, hch2.size, hch2.block⟩
  clear s0 s1 s2 s3 s4 s5 s6 s7 HL HS hch2
  generalize w2.drewN nq = w3 at *
  go_wp2_with fail
  go_loopw [5, 6, 7, 8, 9, 10, 11, 12, 60] (fun x0 x1 x2 x3 x4 x5 x6 x7 i wr => ∃ (k : Nat) (s : R8), k ≤ 64 ∧ i = .int .i64 k ∧ x0 = .int .u32 s.a ∧ x1 = .int .u32 s.b ∧ x2 = .int .u32 s.c ∧ x3 = .int .u32 s.d ∧ x4 = .int .u32 s.e ∧ x5 = .int .u32 s.f ∧ x6 = .int .u32 s.g ∧ x7 = .int .u32 s.h ∧ s = rnds (sched f 64) y k ∧ Lay wr w1.heap.size (sched f 64) ∧ St wr g y ∧ Chg g w wr) (fun _ _ _ _ _ _ _ _ i _ => 64 - (intOf i).toNat)
  case atStart => exact ⟨0, _, Nat.zero_le _, rfl, rfl, rfl, rfl, rfl, rfl, rfl, rfl, rfl, rfl, hl3, hst3, hch3⟩
  case round =>
    clear hl3 hst3 hch3
    obtain ⟨k, s, hk, rfl, rfl, rfl, rfl, rfl, rfl, rfl, rfl, rfl, hs, hl, hst, hch⟩ := hrel
    by_cases hlt : k < 64
    · have g1 := hl.get (Nat.le_of_eq (sched_len f 64)) k hlt
      have HS := Lib.hid hst
      have HL := Lib.hid hl
      have HR := Lib.hid hs
      clear hst hl hs
      have b1 : (k : Int) < 64 := by omega
      have g2 := (HK.out.chg hch hg0).cells k hlt
      have HC := Lib.hid hch
      clear hch
      generalize hwt : (sched f 64).getD k 0 = wt at *
      generalize hkt : kc k = kt at *
      have HWT := Lib.hid (And.intro hwt hkt)
      clear hwt hkt
      go_wp2_with fail
      refine wp_region_quiet_lit (by kernel_rfl) (by kernel_rfl) ?_
      iterate 2 (go_big_quiet_step (fail))
      go_big_quiet_step ((go_at_call 53; exact Calls.quiet_of_same (ror6 _ _)))
      go_big_quiet_step (fail)
      go_big_quiet_step ((go_at_call 53; exact Calls.quiet_of_same (ror11 _ _)))
      iterate 2 (go_big_quiet_step (fail))
      go_big_quiet_step ((go_at_call 53; exact Calls.quiet_of_same (ror25 _ _)))
      repeat (go_big_quiet_step (fail))
      refine wpQuiet_nil ?_
      intro _ hw'
      obtain ⟨nq, hw''⟩ := hw'
      subst hw''
      have hl3 : Lay (wr.drewN nq) w1.heap.size (sched f 64) := HL.out
      have hst3 : St (wr.drewN nq) g y := HS.out
      have hch3 : Chg g w (wr.drewN nq) := ⟨HC.out.os, HC.out.tape, HC.out.output, HC.out.size, HC.out.block⟩
      clear g1 g2 HL HS HC
      generalize wr.drewN nq = w4 at *
      have HL := Lib.hid hl3
      have HS := Lib.hid hst3
      have HC := Lib.hid hch3
      clear hl3 hst3 hch3
      go_wp2_with fail
      refine (ror2 _ _).mono ?_
      rintro e w' ⟨rfl, hw⟩
      subst hw
      go_wp2_with fail
      refine (ror13 _ _).mono ?_
      rintro e w' ⟨rfl, hw⟩
      subst hw
      go_wp2_with fail
      refine (ror22 _ _).mono ?_
      rintro e w' ⟨rfl, hw⟩
      subst hw
      go_wp2_with fail
      go_roundw
      case rel => exact ⟨k + 1, rnd kt wt s, by omega, by go_num, rfl, rfl, rfl, rfl, rfl, rfl, rfl, rfl, by rw [rnds_succ, HWT.out.1, HWT.out.2, ← HR.out], HL.out, HS.out, HC.out⟩
      case measure => simp [intOf]; omega
    · have hs64 : s = rnds (sched f 64) y 64 := by
        have e : k = 64 := by omega
        rw [e] at hs
        exact hs
      have HR := Lib.hid hs64
      clear hl hs hs64
      go_wp2_with fail
      go_loopw [132] (fun i wr => ∃ j : Nat, j ≤ 8 ∧ i = .int .i64 j ∧ St wr g (mix j y s) ∧ Chg g w wr) (fun i _ => 8 - (intOf i).toNat)
      case atStart => exact ⟨0, Nat.zero_le _, rfl, hst, hch⟩
      case round =>
        clear hst hch
        obtain ⟨j, hj, rfl, hst, hch⟩ := hrel
        by_cases hlt : j < 8
        · have g1 := hst.cell hlt
          rw [mix_nth y s hlt] at g1
          have g2 := hst.free j
          have g3 := hst.step hlt
          have g4 := fun w => index8 s hlt w
          unfold cells8 at g4
          generalize nth8 s j = sj at *
          generalize nth8 y j = yj at *
          have HS := Lib.hid g3
          have HC := Lib.hid hch
          clear hst g3 hch
          have b1 : (j : Int) < 8 := by omega
          go_wp2_with fail
          refine wp_region_still_tail 11 (by kernel_rfl) (by kernel_rfl) ?_
          simp only [List.take_succ_cons, List.take_zero, List.drop_succ_cons, List.drop_zero]
          iterate 11 still_step
          refine wpStill_nil ?_
          change wpList _ _ _ _ _ wr.drew
          have hc3 : Chg g w wr.drew := ⟨HC.out.os, HC.out.tape, HC.out.output, HC.out.size, HC.out.block⟩
          have hs3 : St (wr.drew.setCell ⟨g, j, none⟩ (.int .u32 ((yj + sj) % 4294967296))) g (mix (j + 1) y s) := HS.out
          have g1 : wr.drew.cell? ⟨g, j, none⟩ = some (.int .u32 yj) := g1
          have g2 : wr.drew.frozen? ⟨g, j, none⟩ = false := g2
          have HS := Lib.hid hs3
          have HC := Lib.hid hc3
          clear hs3 hc3 g4
          generalize wr.drew = w5 at *
          go_wp2_with fail
          go_roundw
          case rel => exact ⟨j + 1, by omega, by go_num, HS.out, HC.out.set (.inl rfl) _⟩
          case measure => simp [intOf]; omega
        · have hs8 : St wr g (mix 8 y s) := by
            have e : j = 8 := by omega
            rw [e] at hst
            exact hst
          have HS := Lib.hid hs8
          have HC := Lib.hid hch
          clear hs8 hst hch
          go_wp2_with fail
          go_end0
          exact ⟨rfl, by rw [← HR.out]; exact HS.out, HC.out⟩
end Go.Proofs.YteeabenmfmeooaaDoor
