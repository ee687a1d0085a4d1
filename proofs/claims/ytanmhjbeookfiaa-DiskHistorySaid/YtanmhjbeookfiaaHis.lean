/-
  Disks: what the writes and syncs of a history leave.
-/
import Derived.Test.YtanmhjbeookfiaaHol
import Derived.Test.YtanmhjbeookfiaaActs
import Derived.Test.YtanmhjbeookfiaaNew
import Derived.Test.YtanmhjbeookfiaaRst
namespace Go.Proofs.Ytanmhjbeookfiaa
open Go Go.RowKit
def secs (F S : Nat → UInt8) : List (List UInt8) := [dbl (F 0) (S 0), dbl (F 1) (S 1), dbl (F 2) (S 2), dbl (F 3) (S 3)]
def upd (F : Nat → UInt8) (k : Nat) (b : UInt8) : Nat → UInt8 := fun j => if j = k then b else F j
def lastF (F : Nat → UInt8) (q : List Ac) : Nat → UInt8 := q.foldl (fun F c => upd F (c.a.toNat % 4) c.b) F
def wsH (q : List Ac) : List (Int × List UInt8) := q.map fun c => (((c.a.toNat % 4 : Nat) : Int), dbl c.b c.b)
def hD (F : Nat → UInt8) (q : List Ac) (room : Nat) : D := ⟨secs F F, wsH q, room, false⟩
theorem secs_all (F S : Nat → UInt8) : (secs F S).all secB = true := by simp [secs, secB, dbl_len]
theorem secs_len (F S : Nat → UInt8) : (secs F S).length = 4 := rfl
theorem secs_at (F S : Nat → UInt8) {i : Nat} (hi : i < 4) : (secs F S).getD i [] = dbl (F i) (S i) := by
  match i, hi with
  | 0, _ => rfl
  | 1, _ => rfl
  | 2, _ => rfl
  | 3, _ => rfl
theorem ws_allH (q : List Ac) : (wsH q).all (penB 4) = true := by
  rw [List.all_eq_true]
  intro x hx
  unfold wsH at hx
  obtain ⟨c, _, rfl⟩ := List.mem_map.1 hx
  have := Nat.mod_lt c.a.toNat (show 0 < 4 by omega)
  simp [penB, dbl_len]
  omega
theorem wsH_len (q : List Ac) : (wsH q).length = q.length := by simp [wsH]
theorem lastF_snoc (F : Nat → UInt8) (q : List Ac) (c : Ac) : lastF F (q ++ [c]) = upd (lastF F q) (c.a.toNat % 4) c.b := by
  unfold lastF
  rw [List.foldl_append]
  rfl
theorem secs_set (F S : Nat → UInt8) {k : Nat} (hk : k < 4) (b c : UInt8) : (secs F S).set k (dbl b c) = secs (upd F k b) (upd S k c) := by
  match k, hk with
  | 0, _ => rfl
  | 1, _ => rfl
  | 2, _ => rfl
  | 3, _ => rfl
theorem perf_secs : ∀ (q : List Ac) (F S : Nat → UInt8), perfR (secs F S) (wsH q) = secs (lastF F q) (lastF S q)
  | [], _, _ => rfl
  | c :: q, F, S => by
    have hk := Nat.mod_lt c.a.toNat (show 0 < 4 by omega)
    show perfR ((secs F S).set (((c.a.toNat % 4 : Nat) : Int)).toNat (dbl c.b c.b)) (wsH q) = _
    rw [Int.toNat_natCast, secs_set F S hk, perf_secs q]
    rfl
theorem take_wsH (q : List Ac) (k : Nat) : (wsH q).take k = wsH (q.take k) := by simp [wsH, List.map_take]
theorem runs_h {S' : List (List UInt8)} (hS : S'.all secB = true) (hl : S'.length = 4) {q : List Ac} (hq : q.length ≤ 4096) {left : Int} (h1 : -1 ≤ left) (h2 : left ≤ 65536) : runsB ⟨S', wsH q, left, false⟩ = true :=
  runs_true (valid_mk (by omega) (by omega) hS (by rw [wsH_len]; exact hq) (by rw [hl]; exact ws_allH q) h1 h2) rfl
theorem h_runs (F : Nat → UInt8) {q : List Ac} (hq : q.length ≤ 4096) {room : Nat} (hr : room ≤ 65536) : runsB (hD F q room) = true := runs_h (secs_all F F) rfl hq (by omega) (by omega)
theorem h_write (F : Nat → UInt8) {q : List Ac} (hq : q.length < 4096) {room : Nat} (hr : room ≤ 65536) (c : Ac) :
    writeE (hD F q room) ((c.a.toNat % 4 : Nat) : Int) (dbl c.b c.b) = 0 ∧ writeD (hD F q room) ((c.a.toNat % 4 : Nat) : Int) (dbl c.b c.b) = hD F (q ++ [c]) room := by
  have hk := Nat.mod_lt c.a.toNat (show 0 < 4 by omega)
  have hE : writeE (hD F q room) ((c.a.toNat % 4 : Nat) : Int) (dbl c.b c.b) = 0 := by
    unfold writeE
    have hg : runsB (hD F q room) = true ∧ inB (hD F q room).s.length ((c.a.toNat % 4 : Nat) : Int) = true := ⟨h_runs F (by omega) hr, by rw [inB_of]; show _ ∧ _ < ((4 : Nat) : Int); omega⟩
    rw [if_pos hg, if_neg (by rw [dbl_len]; omega), if_neg (by show ¬ (wsH q).length = 4096; rw [wsH_len]; omega)]
  refine ⟨hE, ?_⟩
  rw [(write_ok hE).1, fill_id (dbl_len _ _)]
  unfold hD wsH
  simp
theorem read_secs {X : D} (hr : runsB X = true) (F S : Nat → UInt8) (h : perfR X.s X.p = secs F S) (hl : X.s.length = 4) (i : Nat) (hi : i < 4) : goodA X (i : Int) ∧ readL X (i : Int) = dbl (F i) (S i) := by
  have hg : goodA X (i : Int) := ⟨hr, by rw [inB_of, hl]; omega⟩
  refine ⟨hg, ?_⟩
  unfold readL
  rw [if_pos hg, Int.toNat_natCast]
  have := perf_cur (runs_of hr).1 i X.p.length (Nat.le_refl _)
  rw [List.take_of_length_le (Nat.le_refl _), h, secs_at F S hi, if_pos (by omega)] at this
  exact this.symm
theorem h_read (F : Nat → UInt8) {q : List Ac} (hq : q.length ≤ 4096) {room : Nat} (hr : room ≤ 65536) (i : Nat) (hi : i < 4) : goodA (hD F q room) (i : Int) ∧ readL (hD F q room) (i : Int) = dbl (lastF F q i) (lastF F q i) :=
  read_secs (h_runs F hq hr) (lastF F q) (lastF F q) (perf_secs q F F) rfl i hi
theorem rst_read {X : D} {F S : Nat → UInt8} (h : X.s = secs F S) (i : Nat) (hi : i < 4) : goodA (rst X) (i : Int) ∧ readL (rst X) (i : Int) = dbl (F i) (S i) := by
  refine read_secs ?_ F S (by show perfR X.s [] = _; rw [h]; rfl) (by show X.s.length = 4; rw [h]; rfl) i hi
  show runsB ⟨X.s, [], -1, false⟩ = true
  rw [h]
  exact runs_h (q := []) (secs_all F S) rfl (by simp) (by omega) (by omega)
theorem h_full (F : Nat → UInt8) {q : List Ac} (hq : q.length ≤ 4096) {room : Nat} (hr : room ≤ 65536) (h : q.length ≤ room) : syncD (hD F q room) = hD (lastF F q) [] (room - q.length) ∧ syncE (hD F q room) = 0 := by
  have hm : many (hD F q room) = ((q.length : Nat) : Int) := by
    unfold many hD
    simp only [wsH_len]
    rw [if_neg (by omega)]
    split <;> omega
  obtain ⟨e1, e2⟩ := sync_full (h_runs F hq hr) hm (wsH_len q)
  refine ⟨?_, e2⟩
  have hL : synLeft (hD F q room) = ((room - q.length : Nat) : Int) := by
    unfold synLeft
    rw [hm]
    unfold hD
    simp only
    rw [if_neg (by omega)]
    omega
  rw [e1, hL]
  unfold hD
  simp only
  rw [perf_secs]
  rfl
theorem h_torn (F : Nat → UInt8) {q : List Ac} (hq : q.length ≤ 4096) {room : Nat} (hr : room ≤ 65536) (h : room < q.length) :
    syncE (hD F q room) = 40 ∧ (syncD (hD F q room)).s = secs (lastF F (q.take (room + 1))) (lastF F (q.take room)) ∧ (syncD (hD F q room)).st = true ∧ (syncD (hD F q room)).p = [] := by
  obtain ⟨c, hc⟩ : ∃ c, q[room]? = some c := ⟨_, List.getElem?_eq_getElem h⟩
  have hk := Nat.mod_lt c.a.toNat (show 0 < 4 by omega)
  have hm : many (hD F q room) = ((room : Nat) : Int) := by
    unfold many hD
    simp only [wsH_len]
    rw [if_neg (by omega), if_pos (by omega)]
  have hx : (hD F q room).p[room]? = some (((c.a.toNat % 4 : Nat) : Int), dbl c.b c.b) := by
    show (wsH q)[room]? = _
    unfold wsH
    rw [List.getElem?_map, hc]
    rfl
  obtain ⟨e1, e2⟩ := sync_torn (h_runs F hq hr) hm hx
  refine ⟨e2, ?_, by rw [e1], by rw [e1]⟩
  rw [e1]
  show torn (perfR (secs F F) ((wsH q).take room)) _ = _
  rw [take_wsH, perf_secs]
  unfold torn
  rw [Int.toNat_natCast, secs_at _ _ hk]
  have ht : q.take (room + 1) = q.take room ++ [c] := by
    rw [List.take_succ_eq_append_getElem h, (List.getElem?_eq_some_iff.1 hc).2]
  have hh : ∀ L : UInt8, (dbl c.b c.b).take 64 ++ (dbl L L).drop 64 = dbl c.b L := by
    intro L
    rfl
  rw [ht, lastF_snoc, hh, secs_set _ _ hk]
  congr 1
  unfold upd
  funext j
  split
  · rename_i e; rw [e]
  · rfl
theorem new_h : newD 4 = ⟨secs (fun _ => 0) (fun _ => 0), [], -1, false⟩ := by
  unfold newD
  rw [if_neg (by omega)]
  rfl
theorem stop_h (left : Nat) (h : left ≤ 65536) : stopD (newD 4) (left : Int) = hD (fun _ => 0) [] left ∧ stopE (newD 4) (left : Int) = 0 := by
  rw [new_h]
  have hr : runsB ⟨secs (fun _ => 0) (fun _ => 0), [], -1, false⟩ = true := runs_h (q := []) (secs_all _ _) rfl (by simp) (by omega) (by omega)
  obtain ⟨e1, e2⟩ := stop_ok hr (k := (left : Int)) (by omega)
  exact ⟨by rw [e1]; rfl, e2⟩
end Go.Proofs.Ytanmhjbeookfiaa
