/-
  codec.Encode.
-/
import Derived.Test.YtaahmfmelmjahaaWk
import Derived.Test.YtaahmfmelmjahaaSane
import Derived.Deep.RegionWith
import Derived.Laws.EntriesVeiled
namespace Go.Proofs.Ytaahmfmelmjahaa
open Go Go.RowKit
theorem contents_run : Simul.closedRun Try.prog 1000 26 (.agg #[.nilFunc, .func (.func 40) #[] #[], .func (.func 41) #[] #[], .func (.func 42) #[] #[]]) = true := by kernel_rfl
theorem contents_any (w : World) : Calls Try.prog 26 #[] w (Ret (.agg #[.nilFunc, .func (.func 40) #[] #[], .func (.func 41) #[] #[], .func (.func 42) #[] #[]]) w) := Simul.calls_of_closedRun Try.checked.mixed (by kernel_rfl) contents_run w
/-- the code, and where there is none, the bytes -/
def encb (k n : Int) (s : ByteArray) (q : F) : List UInt8 := if chkv k n s q = 0 then encv k n s q else []
/-- it returns bytes and a code -/
def RetB (l : List UInt8) (x : Int) (w : World) (e : Ending) (w' : World) : Prop := ∃ v, e = .returned (.tuple #[v, .int .i64 x]) ∧ Own w' v (l.map byt) ∧ (∀ j, v.ownBlock = some j → w.heap.size ≤ j) ∧ Below w.heap.size w w'
theorem bcells {W w1 : World} (hb : Below W.heap.size W w1) : (∀ b o, b < W.heap.size → w1.cell? ⟨b, o, none⟩ = W.cell? ⟨b, o, none⟩) ∧ (∀ b o, b < W.heap.size → w1.frozen? ⟨b, o, none⟩ = W.frozen? ⟨b, o, none⟩) :=
  ⟨fun b o h => hb.cell (p := ⟨b, o, none⟩) h, fun b o h => hb.frozen (p := ⟨b, o, none⟩) h⟩
/-- a block of five cells stands as it was laid -/
def Five (w : World) (g : Nat) (a b c d e : Value) : Prop := (w.cell? ⟨g, 0, none⟩ = some a ∧ w.cell? ⟨g, 1, none⟩ = some b ∧ w.cell? ⟨g, 2, none⟩ = some c ∧ w.cell? ⟨g, 3, none⟩ = some d ∧ w.cell? ⟨g, 4, none⟩ = some e) ∧
  (w.frozen? ⟨g, 0, none⟩ = false ∧ w.frozen? ⟨g, 1, none⟩ = false ∧ w.frozen? ⟨g, 2, none⟩ = false ∧ w.frozen? ⟨g, 3, none⟩ = false ∧ w.frozen? ⟨g, 4, none⟩ = false) ∧ g < w.heap.size
theorem five_one {w w' : World} {a b c d e : Value} {T : TypeId} (hb : Below (w.alloc (.cells #[a, b, c, d, e] T)).drew.heap.size (w.alloc (.cells #[a, b, c, d, e] T)).drew w') : Five w' w.heap.size a b c d e :=
  ⟨⟨(hb.cell (by simp)).trans (by go_simp), (hb.cell (by simp)).trans (by go_simp), (hb.cell (by simp)).trans (by go_simp), (hb.cell (by simp)).trans (by go_simp), (hb.cell (by simp)).trans (by go_simp)⟩,
   ⟨(hb.frozen (by simp)).trans (by go_simp), (hb.frozen (by simp)).trans (by go_simp), (hb.frozen (by simp)).trans (by go_simp), (hb.frozen (by simp)).trans (by go_simp), (hb.frozen (by simp)).trans (by go_simp)⟩, by have := hb.size; simp at this; omega⟩
theorem five_first {w w' : World} {a b c d e : Value} {T : TypeId} {o : Obj} (hb : Below ((w.alloc (.cells #[a, b, c, d, e] T)).alloc o).drew.heap.size ((w.alloc (.cells #[a, b, c, d, e] T)).alloc o).drew w') : Five w' w.heap.size a b c d e :=
  ⟨⟨(hb.cell (by simp; omega)).trans (by go_simp), (hb.cell (by simp; omega)).trans (by go_simp), (hb.cell (by simp; omega)).trans (by go_simp), (hb.cell (by simp; omega)).trans (by go_simp), (hb.cell (by simp; omega)).trans (by go_simp)⟩,
   ⟨(hb.frozen (by simp; omega)).trans (by go_simp), (hb.frozen (by simp; omega)).trans (by go_simp), (hb.frozen (by simp; omega)).trans (by go_simp), (hb.frozen (by simp; omega)).trans (by go_simp), (hb.frozen (by simp; omega)).trans (by go_simp)⟩, by have := hb.size; simp at this; omega⟩
theorem five_last {w w' : World} {a b c d e : Value} {T : TypeId} {o : Obj} (hb : Below ((w.alloc o).alloc (.cells #[a, b, c, d, e] T)).drew.heap.size ((w.alloc o).alloc (.cells #[a, b, c, d, e] T)).drew w') : Five w' (w.heap.size + 1) a b c d e :=
  ⟨⟨(hb.cell (by simp)).trans (by go_simp), (hb.cell (by simp)).trans (by go_simp), (hb.cell (by simp)).trans (by go_simp), (hb.cell (by simp)).trans (by go_simp), (hb.cell (by simp)).trans (by go_simp)⟩,
   ⟨(hb.frozen (by simp)).trans (by go_simp), (hb.frozen (by simp)).trans (by go_simp), (hb.frozen (by simp)).trans (by go_simp), (hb.frozen (by simp)).trans (by go_simp), (hb.frozen (by simp)).trans (by go_simp)⟩, by have := hb.size; simp at this; omega⟩
/-- the writer that Encode makes -/
structure Mk (w1 W : World) (b : Nat) (v : Value) : Prop where
  st : WSt W b v []
  be : Below w1.heap.size w1 W
  b1 : w1.heap.size ≤ b
  v1 : ∀ j, v.ownBlock = some j → w1.heap.size ≤ j
theorem own_made (X : World) (z : Nat) (hz : z ≤ 1099511627776) : Own (X.alloc (.cells (madeCells #[.int .u8 0] z) 5)) (.slice (some ⟨X.heap.size, 0, none⟩) 0 z) [] := by
  have h := Own.made X (madeCells #[.int .u8 0] z) 5 0 (Nat.zero_le _) (by rw [size_madeCells]; unfold maxLen; omega)
  rw [size_madeCells] at h
  exact h
theorem set_five {w : World} {g : Nat} {a b c d e v x y u t : Value} {T : TypeId} {fr : Nat × Nat} (h : w.heap[g]? = some (.cells #[a, b, c, d, e] T fr)) :
    (((((w.setCell ⟨g, 0, none⟩ v).setCell ⟨g, 1, none⟩ x).setCell ⟨g, 2, none⟩ y).setCell ⟨g, 3, none⟩ u).setCell ⟨g, 4, none⟩ t).heap[g]? = some (.cells #[v, x, y, u, t] T fr) ∧
    (∀ k, k ≠ g → (((((w.setCell ⟨g, 0, none⟩ v).setCell ⟨g, 1, none⟩ x).setCell ⟨g, 2, none⟩ y).setCell ⟨g, 3, none⟩ u).setCell ⟨g, 4, none⟩ t).heap[k]? = w.heap[k]?) ∧
    (((((w.setCell ⟨g, 0, none⟩ v).setCell ⟨g, 1, none⟩ x).setCell ⟨g, 2, none⟩ y).setCell ⟨g, 3, none⟩ u).setCell ⟨g, 4, none⟩ t).heap.size = w.heap.size ∧ (((((w.setCell ⟨g, 0, none⟩ v).setCell ⟨g, 1, none⟩ x).setCell ⟨g, 2, none⟩ y).setCell ⟨g, 3, none⟩ u).setCell ⟨g, 4, none⟩ t).os = w.os ∧ (((((w.setCell ⟨g, 0, none⟩ v).setCell ⟨g, 1, none⟩ x).setCell ⟨g, 2, none⟩ y).setCell ⟨g, 3, none⟩ u).setCell ⟨g, 4, none⟩ t).tape = w.tape ∧ (((((w.setCell ⟨g, 0, none⟩ v).setCell ⟨g, 1, none⟩ x).setCell ⟨g, 2, none⟩ y).setCell ⟨g, 3, none⟩ u).setCell ⟨g, 4, none⟩ t).output = w.output := by
  refine ⟨?_, fun k hk => ?_, ?_, ?_, ?_, ?_⟩
  · simp [World.setCell, Array.getElem?_modify, h]
  · simp [World.setCell, Array.getElem?_modify, Ne.symm hk]
  · simp [World.setCell]
  · simp only [World.setCell]
  · simp only [World.setCell]
  · simp only [World.setCell]
theorem mk1 {w1 w' : World} {z : Nat} (hz : z ≤ 1099511627776) (hb : Below (w1.alloc (.cells (madeCells #[.int .u8 0] z) 5)).drew.heap.size (w1.alloc (.cells (madeCells #[.int .u8 0] z) 5)).drew w') : Mk w1 (w'.alloc (.cells #[(.slice (some ⟨w1.heap.size, 0, none⟩) 0 z), .nilFunc, .func (.func 40) #[] #[], .func (.func 41) #[] #[], .func (.func 42) #[] #[]] 51)) w'.heap.size (.slice (some ⟨w1.heap.size, 0, none⟩) 0 z) := by
  have o1 : Own (w1.alloc (.cells (madeCells #[.int .u8 0] z) 5)).drew (.slice (some ⟨w1.heap.size, 0, none⟩) 0 z) [] := (own_made w1 z hz).keep (Nat.le_refl _) fun _ _ => rfl
  have hs : w1.heap.size + 1 ≤ w'.heap.size := by have := hb.size; simp at this; omega
  have o2 := o1.keep hb.size fun k hk => hb.block k (o1.lt hk)
  have b0 : Below w1.heap.size w1 w' := (((Below.refl _ _).alloc (Nat.le_refl _) _).drew).trans (hb.mono (by simp))
  exact ⟨⟨heap_alloc_new w' _, o2.alloc _, by simp only [Value.ownBlock, ne_eq, Option.some.injEq]; omega⟩, b0.alloc (by omega) _, by omega, fun j hj => by simp only [Value.ownBlock, Option.some.injEq] at hj; omega⟩
theorem mk2 {w1 w' : World} {z : Nat} (hz : z ≤ 1099511627776) (hb : Below ((w1.alloc (.cells (madeCells #[.int .u8 0] z) 5)).alloc (.cells #[.slice none 0 0, .nilFunc, .nilFunc, .nilFunc, .nilFunc] 51)).drew.heap.size ((w1.alloc (.cells (madeCells #[.int .u8 0] z) 5)).alloc (.cells #[.slice none 0 0, .nilFunc, .nilFunc, .nilFunc, .nilFunc] 51)).drew w') : Mk w1 (((((w'.setCell ⟨w1.heap.size + 1, 0, none⟩ (.slice (some ⟨w1.heap.size, 0, none⟩) 0 z)).setCell ⟨w1.heap.size + 1, 1, none⟩ .nilFunc).setCell ⟨w1.heap.size + 1, 2, none⟩ (.func (.func 40) #[] #[])).setCell ⟨w1.heap.size + 1, 3, none⟩ (.func (.func 41) #[] #[])).setCell ⟨w1.heap.size + 1, 4, none⟩ (.func (.func 42) #[] #[])) (w1.heap.size + 1) (.slice (some ⟨w1.heap.size, 0, none⟩) 0 z) := by
  have o0 := (own_made w1 z hz).alloc (.cells #[.slice none 0 0, .nilFunc, .nilFunc, .nilFunc, .nilFunc] 51)
  have o1 : Own ((w1.alloc (.cells (madeCells #[.int .u8 0] z) 5)).alloc (.cells #[.slice none 0 0, .nilFunc, .nilFunc, .nilFunc, .nilFunc] 51)).drew (.slice (some ⟨w1.heap.size, 0, none⟩) 0 z) [] := o0.keep (Nat.le_refl _) fun _ _ => rfl
  have hs : w1.heap.size + 2 ≤ w'.heap.size := by have := hb.size; simp at this; omega
  have o2 := o1.keep hb.size fun k hk => hb.block k (o1.lt hk)
  have b0 : Below w1.heap.size w1 w' := ((((Below.refl _ _).alloc (Nat.le_refl _) _).alloc (by simp) _).drew).trans (hb.mono (by simp; omega))
  have hk : w'.heap[w1.heap.size + 1]? = some (.cells #[.slice none 0 0, .nilFunc, .nilFunc, .nilFunc, .nilFunc] 51) := by
    rw [hb.block _ (by simp)]
    show ((w1.alloc (.cells (madeCells #[.int .u8 0] z) 5)).alloc (.cells #[.slice none 0 0, .nilFunc, .nilFunc, .nilFunc, .nilFunc] 51)).heap[w1.heap.size + 1]? = _
    rw [show w1.heap.size + 1 = (w1.alloc (.cells (madeCells #[.int .u8 0] z) 5)).heap.size from by simp]
    exact heap_alloc_new _ _
  obtain ⟨s1, s2, s3, s4, s5, s6⟩ := set_five (v := .slice (some ⟨w1.heap.size, 0, none⟩) 0 z) (x := .nilFunc) (y := .func (.func 40) #[] #[]) (u := .func (.func 41) #[] #[]) (t := .func (.func 42) #[] #[]) hk
  generalize (((((w'.setCell ⟨w1.heap.size + 1, 0, none⟩ (.slice (some ⟨w1.heap.size, 0, none⟩) 0 z)).setCell ⟨w1.heap.size + 1, 1, none⟩ .nilFunc).setCell ⟨w1.heap.size + 1, 2, none⟩ (.func (.func 40) #[] #[])).setCell ⟨w1.heap.size + 1, 3, none⟩ (.func (.func 41) #[] #[])).setCell ⟨w1.heap.size + 1, 4, none⟩ (.func (.func 42) #[] #[])) = W at *
  exact ⟨⟨s1, o2.keep (by rw [s3]; exact Nat.le_refl _) fun k hk => s2 k (by simp only [Value.ownBlock, Option.some.injEq] at hk; omega), by simp only [Value.ownBlock, ne_eq, Option.some.injEq]; omega⟩, b0.trans ⟨s4, s5, s6, by rw [s3]; exact Nat.le_refl _, fun k hk => s2 k (by omega)⟩, by omega, fun j hj => by simp only [Value.ownBlock, Option.some.injEq] at hj; omega⟩
theorem mk3 {w1 w' : World} {z : Nat} (hz : z ≤ 1099511627776) (hb : Below w1.drew.heap.size w1.drew w') : Mk w1 ((w'.alloc (.cells (madeCells #[.int .u8 0] z) 5)).alloc (.cells #[(.slice (some ⟨w'.heap.size, 0, none⟩) 0 z), .nilFunc, .func (.func 40) #[] #[], .func (.func 41) #[] #[], .func (.func 42) #[] #[]] 51)) (w'.heap.size + 1) (.slice (some ⟨w'.heap.size, 0, none⟩) 0 z) := by
  have hs : w1.heap.size + 0 ≤ w'.heap.size := by have := hb.size; simp at this; omega
  have b0 : Below w1.heap.size w1 w' := ((Below.refl _ _).drew).trans (hb.mono (by simp))
  have o2 := (own_made w' z hz)
  refine ⟨⟨?_, o2.alloc _, by simp only [Value.ownBlock, ne_eq, Option.some.injEq]; omega⟩, (b0.alloc (by omega) _).alloc (by simp; omega) _, by omega, fun j hj => by simp only [Value.ownBlock, Option.some.injEq] at hj; omega⟩
  have := heap_alloc_new (w'.alloc (.cells (madeCells #[.int .u8 0] z) 5)) (.cells #[(.slice (some ⟨w'.heap.size, 0, none⟩) 0 z), .nilFunc, .func (.func 40) #[] #[], .func (.func 41) #[] #[], .func (.func 42) #[] #[]] 51)
  simpa using this
theorem mk4 {w1 w' : World} {z : Nat} (hz : z ≤ 1099511627776) (hb : Below w1.drew.heap.size w1.drew w') : Mk w1 ((w'.alloc (.cells #[(.slice (some ⟨w'.heap.size + 1, 0, none⟩) 0 z), .nilFunc, .func (.func 40) #[] #[], .func (.func 41) #[] #[], .func (.func 42) #[] #[]] 51)).alloc (.cells (madeCells #[.int .u8 0] z) 5)) w'.heap.size (.slice (some ⟨w'.heap.size + 1, 0, none⟩) 0 z) := by
  have hs : w1.heap.size + 0 ≤ w'.heap.size := by have := hb.size; simp at this; omega
  have b0 : Below w1.heap.size w1 w' := ((Below.refl _ _).drew).trans (hb.mono (by simp))
  have o2 := own_made (w'.alloc (.cells #[(.slice (some ⟨w'.heap.size + 1, 0, none⟩) 0 z), .nilFunc, .func (.func 40) #[] #[], .func (.func 41) #[] #[], .func (.func 42) #[] #[]] 51)) z hz
  rw [show (w'.alloc (.cells #[(.slice (some ⟨w'.heap.size + 1, 0, none⟩) 0 z), .nilFunc, .func (.func 40) #[] #[], .func (.func 41) #[] #[], .func (.func 42) #[] #[]] 51)).heap.size = w'.heap.size + 1 from by simp] at o2
  refine ⟨⟨?_, o2, by simp only [Value.ownBlock, ne_eq, Option.some.injEq]; omega⟩, (b0.alloc (by omega) _).alloc (by simp; omega) _, by omega, fun j hj => by simp only [Value.ownBlock, Option.some.injEq] at hj; omega⟩
  rw [heap_alloc_old _ _ (by simp)]
  exact heap_alloc_new w' _
theorem mk5 {w1 w' : World} {z : Nat} (hz : z ≤ 1099511627776) (hb : Below ((w1.alloc (.cells #[.slice none 0 0, .nilFunc, .nilFunc, .nilFunc, .nilFunc] 51)).alloc (.cells (madeCells #[.int .u8 0] z) 5)).drew.heap.size ((w1.alloc (.cells #[.slice none 0 0, .nilFunc, .nilFunc, .nilFunc, .nilFunc] 51)).alloc (.cells (madeCells #[.int .u8 0] z) 5)).drew w') : Mk w1 (((((w'.setCell ⟨w1.heap.size, 0, none⟩ (.slice (some ⟨w1.heap.size + 1, 0, none⟩) 0 z)).setCell ⟨w1.heap.size, 1, none⟩ .nilFunc).setCell ⟨w1.heap.size, 2, none⟩ (.func (.func 40) #[] #[])).setCell ⟨w1.heap.size, 3, none⟩ (.func (.func 41) #[] #[])).setCell ⟨w1.heap.size, 4, none⟩ (.func (.func 42) #[] #[])) w1.heap.size (.slice (some ⟨w1.heap.size + 1, 0, none⟩) 0 z) := by
  have o0 := own_made (w1.alloc (.cells #[.slice none 0 0, .nilFunc, .nilFunc, .nilFunc, .nilFunc] 51)) z hz
  rw [show (w1.alloc (.cells #[.slice none 0 0, .nilFunc, .nilFunc, .nilFunc, .nilFunc] 51)).heap.size = w1.heap.size + 1 from by simp] at o0
  have o1 : Own ((w1.alloc (.cells #[.slice none 0 0, .nilFunc, .nilFunc, .nilFunc, .nilFunc] 51)).alloc (.cells (madeCells #[.int .u8 0] z) 5)).drew (.slice (some ⟨w1.heap.size + 1, 0, none⟩) 0 z) [] := o0.keep (Nat.le_refl _) fun _ _ => rfl
  have hs : w1.heap.size + 2 ≤ w'.heap.size := by have := hb.size; simp at this; omega
  have o2 := o1.keep hb.size fun k hk => hb.block k (o1.lt hk)
  have b0 : Below w1.heap.size w1 w' := ((((Below.refl _ _).alloc (Nat.le_refl _) _).alloc (by simp) _).drew).trans (hb.mono (by simp; omega))
  have hk : w'.heap[w1.heap.size]? = some (.cells #[.slice none 0 0, .nilFunc, .nilFunc, .nilFunc, .nilFunc] 51) := by
    rw [hb.block _ (by simp; omega)]
    show ((w1.alloc (.cells #[.slice none 0 0, .nilFunc, .nilFunc, .nilFunc, .nilFunc] 51)).alloc (.cells (madeCells #[.int .u8 0] z) 5)).heap[w1.heap.size]? = _
    rw [heap_alloc_old _ _ (by simp)]
    exact heap_alloc_new w1 _
  obtain ⟨s1, s2, s3, s4, s5, s6⟩ := set_five (v := .slice (some ⟨w1.heap.size + 1, 0, none⟩) 0 z) (x := .nilFunc) (y := .func (.func 40) #[] #[]) (u := .func (.func 41) #[] #[]) (t := .func (.func 42) #[] #[]) hk
  generalize (((((w'.setCell ⟨w1.heap.size, 0, none⟩ (.slice (some ⟨w1.heap.size + 1, 0, none⟩) 0 z)).setCell ⟨w1.heap.size, 1, none⟩ .nilFunc).setCell ⟨w1.heap.size, 2, none⟩ (.func (.func 40) #[] #[])).setCell ⟨w1.heap.size, 3, none⟩ (.func (.func 41) #[] #[])).setCell ⟨w1.heap.size, 4, none⟩ (.func (.func 42) #[] #[])) = W at *
  exact ⟨⟨s1, o2.keep (by rw [s3]; exact Nat.le_refl _) fun k hk => s2 k (by simp only [Value.ownBlock, Option.some.injEq] at hk; omega), by simp only [Value.ownBlock, ne_eq, Option.some.injEq]; omega⟩, b0.trans ⟨s4, s5, s6, by rw [s3]; exact Nat.le_refl _, fun k hk => s2 k (by omega)⟩, by omega, fun j hj => by simp only [Value.ownBlock, Option.some.injEq] at hj; omega⟩
theorem mk6 {w1 w' : World} {z : Nat} (hz : z ≤ 1099511627776) (hb : Below (w1.alloc (.cells #[.slice none 0 0, .nilFunc, .nilFunc, .nilFunc, .nilFunc] 51)).drew.heap.size (w1.alloc (.cells #[.slice none 0 0, .nilFunc, .nilFunc, .nilFunc, .nilFunc] 51)).drew w') : Mk w1 ((((((w'.setCell ⟨w1.heap.size, 0, none⟩ (.slice (some ⟨w'.heap.size, 0, none⟩) 0 z)).setCell ⟨w1.heap.size, 1, none⟩ .nilFunc).setCell ⟨w1.heap.size, 2, none⟩ (.func (.func 40) #[] #[])).setCell ⟨w1.heap.size, 3, none⟩ (.func (.func 41) #[] #[])).setCell ⟨w1.heap.size, 4, none⟩ (.func (.func 42) #[] #[])).alloc (.cells (madeCells #[.int .u8 0] z) 5)) w1.heap.size (.slice (some ⟨w'.heap.size, 0, none⟩) 0 z) := by
  have hs : w1.heap.size + 1 ≤ w'.heap.size := by have := hb.size; simp at this; omega
  have b0 : Below w1.heap.size w1 w' := (((Below.refl _ _).alloc (Nat.le_refl _) _).drew).trans (hb.mono (by simp))
  have hk : w'.heap[w1.heap.size]? = some (.cells #[.slice none 0 0, .nilFunc, .nilFunc, .nilFunc, .nilFunc] 51) := by
    rw [hb.block _ (by simp)]
    exact heap_alloc_new w1 _
  obtain ⟨s1, s2, s3, s4, s5, s6⟩ := set_five (v := .slice (some ⟨w'.heap.size, 0, none⟩) 0 z) (x := .nilFunc) (y := .func (.func 40) #[] #[]) (u := .func (.func 41) #[] #[]) (t := .func (.func 42) #[] #[]) hk
  generalize (((((w'.setCell ⟨w1.heap.size, 0, none⟩ (.slice (some ⟨w'.heap.size, 0, none⟩) 0 z)).setCell ⟨w1.heap.size, 1, none⟩ .nilFunc).setCell ⟨w1.heap.size, 2, none⟩ (.func (.func 40) #[] #[])).setCell ⟨w1.heap.size, 3, none⟩ (.func (.func 41) #[] #[])).setCell ⟨w1.heap.size, 4, none⟩ (.func (.func 42) #[] #[])) = W at *
  have b1 : Below w1.heap.size w1 W := b0.trans ⟨s4, s5, s6, by rw [s3]; exact Nat.le_refl _, fun k hk => s2 k (by omega)⟩
  have o2 := own_made W z hz
  rw [s3] at o2
  refine ⟨⟨?_, o2, by simp only [Value.ownBlock, ne_eq, Option.some.injEq]; omega⟩, b1.alloc (by rw [s3]; omega) _, by omega, fun j hj => by simp only [Value.ownBlock, Option.some.injEq] at hj; omega⟩
  rw [heap_alloc_old _ _ (by rw [s3]; omega)]
  exact s1
theorem five_use {w : World} {g : Nat} {a b c d e : Value} {G : Prop} (h : Five w g a b c d e) (k : Five w g a b c d e → G) : G := k h
theorem make_run (z : Nat) (hz : z ≤ 1099511627776) (W : World) : (Instr.makeSlice 27 (.int .i64 0) (.int .i64 (z : Int))).run Try.prog W = .ok (.slice (some ⟨W.heap.size, 0, none⟩) 0 z) (W.alloc (.cells (madeCells #[.int .u8 0] z) 5)) := by
  obtain ⟨i0, hi, hz0, hz1, hz2⟩ := info_parts Try.info5
  have h := run_make (P := Try.prog) W 27 5 i0 (.int .u8 0) Try.underlying27 hi hz0 .i64 .i64 0 z (Int.le_refl _) (by omega) (by rw [hz2]; omega) (by omega)
  rw [hz1] at h
  simpa [Value.cells] using h
set_option maxHeartbeats 1000000 in
theorem enc_any (k n : Int) (s : ByteArray) (q : F) (L : Value) (w : World) (hs : Okv k n s) (hL : Sl w L q) (hd : depv k (F.dep q) ≤ 1000) (hz : szv k n s q ≤ 1099511627776) :
    Calls Try.prog 12 #[val k n s L] w (RetB (encb k n s q) (chkv k n s q) w) := by
  have h1 := fun x => size_any k n s q L _ hs (hL.below (one_new w x)) hd hz
  have hb := fun (w' : World) (b : Nat) (v : Value) (hb : Below w.heap.size w w') (h1 : w.heap.size ≤ b) (h2 : ∀ j, v.ownBlock = some j → w.heap.size ≤ j) (hst : WSt w' b v []) (hw : wfv k n s.size q.len (F.wf q) = true) => wv_any k n s q L w w' b v [] hs hL hb h1 h2 hst hw (by simpa using hz)
  by_cases hc : chkv k n s q = 0
  · have hw : wfv k n s.size q.len (F.wf q) = true := by
      unfold chkv at hc
      split at hc
      · assumption
      · cases hc
    rw [show encb k n s q = encv k n s q from by unfold encb; rw [if_pos hc], hc]
    simp only [hc, if_true] at h1
    obtain ⟨p, c, rfl, hl⟩ := hL.shape
    generalize encv k n s q = en at *
    generalize szv k n s q = z at *
    have H1 := Lib.hid h1
    have HB := Lib.hid hb
    have HW := Lib.hid hw
    clear h1 hb hw hc hL
    go_enter Try.func12, Try.ntmps12
    go_wp2_with fail
    refine (H1.out _).mono ?_
    rintro e w1 ⟨rfl, hb1⟩
    obtain ⟨a0, a1, a2, a3⟩ := boxed (hb1.mono (by simp))
    have hb2 : Below w.heap.size w w1 := (one_new _ _).trans (hb1.mono (by simp))
    have hz1 : w.heap.size + 1 ≤ w1.heap.size := by have := hb1.size; simpa using this
    clear hb1
    go_wp2_with fail
    have hmk := make_run z hz
    go_region_with (go_at_call 26; refine (contents_any _).mono ?_; rintro e w' ⟨rfl, hb'⟩; first | ((with_reducible refine five_use (five_last hb') ?_); rintro ⟨⟨e0, e1, e2, e3, e4⟩, ⟨q0, q1, q2, q3, q4⟩, hlt'⟩) | ((with_reducible refine five_use (five_first hb') ?_); rintro ⟨⟨e0, e1, e2, e3, e4⟩, ⟨q0, q1, q2, q3, q4⟩, hlt'⟩) | ((with_reducible refine five_use (five_one hb') ?_); rintro ⟨⟨e0, e1, e2, e3, e4⟩, ⟨q0, q1, q2, q3, q4⟩, hlt'⟩) | skip)
    · have hM := mk1 hz hb'
      have hbw := hb2.trans (hM.be.mono (by omega))
      have hcc := HB.out _ _ _ hbw (by have := hM.b1; omega) (fun j hj => by have := hM.v1 j hj; omega) hM.st HW.out
      have A0 := (hM.be.cell (p := ⟨w.heap.size, 0, none⟩) (by simp; omega)).trans a0
      have A1 := (hM.be.cell (p := ⟨w.heap.size, 1, none⟩) (by simp; omega)).trans a1
      have A2 := (hM.be.cell (p := ⟨w.heap.size, 2, none⟩) (by simp; omega)).trans a2
      have A3 := (hM.be.cell (p := ⟨w.heap.size, 3, none⟩) (by simp; omega)).trans a3
      have hbb := hM.b1
      have hvv := hM.v1
      clear hb' a0 a1 a2 a3 hM
      generalize (w'.alloc (.cells #[(.slice (some ⟨w1.heap.size, 0, none⟩) 0 z), .nilFunc, .func (.func 40) #[] #[], .func (.func 41) #[] #[], .func (.func 42) #[] #[]] 51)) = W at *
      go_wp2_with fail
      refine hcc.mono ?_
      rintro e w5 ⟨rfl, v5, hst5, hwr5⟩
      obtain ⟨c5, f5⟩ := hst5.cell
      have hfin : Own w5 v5 (en.map byt) := by simpa using hst5.own
      have hfo : ∀ j, v5.ownBlock = some j → w.heap.size ≤ j := fun j hj => by
        rcases hwr5.own j hj with e | e
        · have := hvv j e; omega
        · have := hbw.size; omega
      have hfb : Below w.heap.size w w5 := hwr5.below hbw hbw.size (by omega) (fun j hj => by have := hvv j hj; omega)
      clear hcc hst5 hwr5
      go_wp2_with fail
      go_ret2
      exact ⟨_, rfl, hfin, hfo, hfb⟩
    · have hM := mk2 hz hb'
      have hbw := hb2.trans (hM.be.mono (by omega))
      have hcc := HB.out _ _ _ hbw (by have := hM.b1; omega) (fun j hj => by have := hM.v1 j hj; omega) hM.st HW.out
      have A0 := (hM.be.cell (p := ⟨w.heap.size, 0, none⟩) (by simp; omega)).trans a0
      have A1 := (hM.be.cell (p := ⟨w.heap.size, 1, none⟩) (by simp; omega)).trans a1
      have A2 := (hM.be.cell (p := ⟨w.heap.size, 2, none⟩) (by simp; omega)).trans a2
      have A3 := (hM.be.cell (p := ⟨w.heap.size, 3, none⟩) (by simp; omega)).trans a3
      have hbb := hM.b1
      have hvv := hM.v1
      clear hb' a0 a1 a2 a3 hM
      generalize (((((w'.setCell ⟨w1.heap.size + 1, 0, none⟩ (.slice (some ⟨w1.heap.size, 0, none⟩) 0 z)).setCell ⟨w1.heap.size + 1, 1, none⟩ .nilFunc).setCell ⟨w1.heap.size + 1, 2, none⟩ (.func (.func 40) #[] #[])).setCell ⟨w1.heap.size + 1, 3, none⟩ (.func (.func 41) #[] #[])).setCell ⟨w1.heap.size + 1, 4, none⟩ (.func (.func 42) #[] #[])) = W at *
      go_wp2_with fail
      refine hcc.mono ?_
      rintro e w5 ⟨rfl, v5, hst5, hwr5⟩
      obtain ⟨c5, f5⟩ := hst5.cell
      have hfin : Own w5 v5 (en.map byt) := by simpa using hst5.own
      have hfo : ∀ j, v5.ownBlock = some j → w.heap.size ≤ j := fun j hj => by
        rcases hwr5.own j hj with e | e
        · have := hvv j e; omega
        · have := hbw.size; omega
      have hfb : Below w.heap.size w w5 := hwr5.below hbw hbw.size (by omega) (fun j hj => by have := hvv j hj; omega)
      clear hcc hst5 hwr5
      go_wp2_with fail
      go_ret2
      exact ⟨_, rfl, hfin, hfo, hfb⟩
    · have hM := mk3 hz hb'
      have hbw := hb2.trans (hM.be.mono (by omega))
      have hcc := HB.out _ _ _ hbw (by have := hM.b1; omega) (fun j hj => by have := hM.v1 j hj; omega) hM.st HW.out
      have A0 := (hM.be.cell (p := ⟨w.heap.size, 0, none⟩) (by simp; omega)).trans a0
      have A1 := (hM.be.cell (p := ⟨w.heap.size, 1, none⟩) (by simp; omega)).trans a1
      have A2 := (hM.be.cell (p := ⟨w.heap.size, 2, none⟩) (by simp; omega)).trans a2
      have A3 := (hM.be.cell (p := ⟨w.heap.size, 3, none⟩) (by simp; omega)).trans a3
      have hbb := hM.b1
      have hvv := hM.v1
      clear hb' a0 a1 a2 a3 hM
      generalize ((w'.alloc (.cells (madeCells #[.int .u8 0] z) 5)).alloc (.cells #[(.slice (some ⟨w'.heap.size, 0, none⟩) 0 z), .nilFunc, .func (.func 40) #[] #[], .func (.func 41) #[] #[], .func (.func 42) #[] #[]] 51)) = W at *
      go_wp2_with fail
      refine hcc.mono ?_
      rintro e w5 ⟨rfl, v5, hst5, hwr5⟩
      obtain ⟨c5, f5⟩ := hst5.cell
      have hfin : Own w5 v5 (en.map byt) := by simpa using hst5.own
      have hfo : ∀ j, v5.ownBlock = some j → w.heap.size ≤ j := fun j hj => by
        rcases hwr5.own j hj with e | e
        · have := hvv j e; omega
        · have := hbw.size; omega
      have hfb : Below w.heap.size w w5 := hwr5.below hbw hbw.size (by omega) (fun j hj => by have := hvv j hj; omega)
      clear hcc hst5 hwr5
      go_wp2_with fail
      go_ret2
      exact ⟨_, rfl, hfin, hfo, hfb⟩
    · have hM := mk4 hz hb'
      have hbw := hb2.trans (hM.be.mono (by omega))
      have hcc := HB.out _ _ _ hbw (by have := hM.b1; omega) (fun j hj => by have := hM.v1 j hj; omega) hM.st HW.out
      have A0 := (hM.be.cell (p := ⟨w.heap.size, 0, none⟩) (by simp; omega)).trans a0
      have A1 := (hM.be.cell (p := ⟨w.heap.size, 1, none⟩) (by simp; omega)).trans a1
      have A2 := (hM.be.cell (p := ⟨w.heap.size, 2, none⟩) (by simp; omega)).trans a2
      have A3 := (hM.be.cell (p := ⟨w.heap.size, 3, none⟩) (by simp; omega)).trans a3
      have hbb := hM.b1
      have hvv := hM.v1
      clear hb' a0 a1 a2 a3 hM
      generalize ((w'.alloc (.cells #[(.slice (some ⟨w'.heap.size + 1, 0, none⟩) 0 z), .nilFunc, .func (.func 40) #[] #[], .func (.func 41) #[] #[], .func (.func 42) #[] #[]] 51)).alloc (.cells (madeCells #[.int .u8 0] z) 5)) = W at *
      go_wp2_with fail
      refine hcc.mono ?_
      rintro e w5 ⟨rfl, v5, hst5, hwr5⟩
      obtain ⟨c5, f5⟩ := hst5.cell
      have hfin : Own w5 v5 (en.map byt) := by simpa using hst5.own
      have hfo : ∀ j, v5.ownBlock = some j → w.heap.size ≤ j := fun j hj => by
        rcases hwr5.own j hj with e | e
        · have := hvv j e; omega
        · have := hbw.size; omega
      have hfb : Below w.heap.size w w5 := hwr5.below hbw hbw.size (by omega) (fun j hj => by have := hvv j hj; omega)
      clear hcc hst5 hwr5
      go_wp2_with fail
      go_ret2
      exact ⟨_, rfl, hfin, hfo, hfb⟩
    · have hM := mk5 hz hb'
      have hbw := hb2.trans (hM.be.mono (by omega))
      have hcc := HB.out _ _ _ hbw (by have := hM.b1; omega) (fun j hj => by have := hM.v1 j hj; omega) hM.st HW.out
      have A0 := (hM.be.cell (p := ⟨w.heap.size, 0, none⟩) (by simp; omega)).trans a0
      have A1 := (hM.be.cell (p := ⟨w.heap.size, 1, none⟩) (by simp; omega)).trans a1
      have A2 := (hM.be.cell (p := ⟨w.heap.size, 2, none⟩) (by simp; omega)).trans a2
      have A3 := (hM.be.cell (p := ⟨w.heap.size, 3, none⟩) (by simp; omega)).trans a3
      have hbb := hM.b1
      have hvv := hM.v1
      clear hb' a0 a1 a2 a3 hM
      generalize (((((w'.setCell ⟨w1.heap.size, 0, none⟩ (.slice (some ⟨w1.heap.size + 1, 0, none⟩) 0 z)).setCell ⟨w1.heap.size, 1, none⟩ .nilFunc).setCell ⟨w1.heap.size, 2, none⟩ (.func (.func 40) #[] #[])).setCell ⟨w1.heap.size, 3, none⟩ (.func (.func 41) #[] #[])).setCell ⟨w1.heap.size, 4, none⟩ (.func (.func 42) #[] #[])) = W at *
      go_wp2_with fail
      refine hcc.mono ?_
      rintro e w5 ⟨rfl, v5, hst5, hwr5⟩
      obtain ⟨c5, f5⟩ := hst5.cell
      have hfin : Own w5 v5 (en.map byt) := by simpa using hst5.own
      have hfo : ∀ j, v5.ownBlock = some j → w.heap.size ≤ j := fun j hj => by
        rcases hwr5.own j hj with e | e
        · have := hvv j e; omega
        · have := hbw.size; omega
      have hfb : Below w.heap.size w w5 := hwr5.below hbw hbw.size (by omega) (fun j hj => by have := hvv j hj; omega)
      clear hcc hst5 hwr5
      go_wp2_with fail
      go_ret2
      exact ⟨_, rfl, hfin, hfo, hfb⟩
    · have hM := mk6 hz hb'
      have hbw := hb2.trans (hM.be.mono (by omega))
      have hcc := HB.out _ _ _ hbw (by have := hM.b1; omega) (fun j hj => by have := hM.v1 j hj; omega) hM.st HW.out
      have A0 := (hM.be.cell (p := ⟨w.heap.size, 0, none⟩) (by simp; omega)).trans a0
      have A1 := (hM.be.cell (p := ⟨w.heap.size, 1, none⟩) (by simp; omega)).trans a1
      have A2 := (hM.be.cell (p := ⟨w.heap.size, 2, none⟩) (by simp; omega)).trans a2
      have A3 := (hM.be.cell (p := ⟨w.heap.size, 3, none⟩) (by simp; omega)).trans a3
      have hbb := hM.b1
      have hvv := hM.v1
      clear hb' a0 a1 a2 a3 hM
      generalize ((((((w'.setCell ⟨w1.heap.size, 0, none⟩ (.slice (some ⟨w'.heap.size, 0, none⟩) 0 z)).setCell ⟨w1.heap.size, 1, none⟩ .nilFunc).setCell ⟨w1.heap.size, 2, none⟩ (.func (.func 40) #[] #[])).setCell ⟨w1.heap.size, 3, none⟩ (.func (.func 41) #[] #[])).setCell ⟨w1.heap.size, 4, none⟩ (.func (.func 42) #[] #[])).alloc (.cells (madeCells #[.int .u8 0] z) 5)) = W at *
      go_wp2_with fail
      refine hcc.mono ?_
      rintro e w5 ⟨rfl, v5, hst5, hwr5⟩
      obtain ⟨c5, f5⟩ := hst5.cell
      have hfin : Own w5 v5 (en.map byt) := by simpa using hst5.own
      have hfo : ∀ j, v5.ownBlock = some j → w.heap.size ≤ j := fun j hj => by
        rcases hwr5.own j hj with e | e
        · have := hvv j e; omega
        · have := hbw.size; omega
      have hfb : Below w.heap.size w w5 := hwr5.below hbw hbw.size (by omega) (fun j hj => by have := hvv j hj; omega)
      clear hcc hst5 hwr5
      go_wp2_with fail
      go_ret2
      exact ⟨_, rfl, hfin, hfo, hfb⟩
  · have hr2 : (chkv k n s q != 0) = true := by simp [hc]
    simp only [hc, if_false] at h1
    rw [show encb k n s q = [] from by unfold encb; rw [if_neg hc]]
    obtain ⟨p, c, rfl, hl⟩ := hL.shape
    generalize chkv k n s q = r at *
    have H1 := Lib.hid h1
    clear h1 hb hc hL
    go_enter Try.func12, Try.ntmps12
    go_wp2_with fail
    refine (H1.out _).mono ?_
    rintro e w1 ⟨rfl, hb1⟩
    have hb2 : Below w.heap.size w w1 := (one_new _ _).trans (hb1.mono (by simp))
    clear hb1
    go_wp2_with fail
    go_ret2
    exact ⟨.slice none 0 0, rfl, Own.nil _, (fun j hj => by cases hj), hb2⟩
end Go.Proofs.Ytaahmfmelmjahaa
