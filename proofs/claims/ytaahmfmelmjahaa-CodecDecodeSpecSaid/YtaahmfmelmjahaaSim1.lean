/-
  A canonical run serves every run: joined texts (A to I).
-/
import Derived.Calls
import Derived.Below
import Derived.Laws.Sem
import Derived.Laws.World
import Derived.KernelRfl
import Derived.Orders
import Derived.Laws.Append
/-
  A canonical run serves every run. Part A: values, cells and worlds that differ by a renaming of the blocks that a call makes.
-/
namespace Go.Proofs.Simul
open Go Go.RowKit

def BIG : Nat := 18446744073709551616

/-- a renaming: for each canonical block the block that stands for it, how many cells that one has at least, and how many make an element -/
abbrev Ren := List (Option (Nat × Nat × Nat))
def ent (u : Ren) (r : Nat) : Option (Nat × Nat × Nat) := (u[r]?).join
theorem ent_some {u : Ren} {r : Nat} {x : Nat × Nat × Nat} : ent u r = some x ↔ u[r]? = some (some x) := by
  unfold ent
  cases u[r]? with
  | none => simp
  | some y => simp
def RR (u : Ren) (r s : Nat) : Prop := ∃ n z, ent u r = some (s, n, z)
def AR (u : Ren) (a b : Addr) : Prop := RR u a.block b.block ∧ b.off = a.off ∧ b.spot = a.spot
/-- every entry stays -/
def Sub (u u' : Ren) : Prop := ∀ (r : Nat) (x : Nat × Nat × Nat), ent u r = some x → ent u' r = some x
theorem Sub.refl (u : Ren) : Sub u u := fun _ _ h => h
theorem Sub.trans {a b c : Ren} (h : Sub a b) (k : Sub b c) : Sub a c := fun r x hx => k r x (h r x hx)
/-- entries come behind -/
def Ext (u u' : Ren) : Prop := ∃ l, u' = u ++ l
theorem Ext.refl (u : Ren) : Ext u u := ⟨[], by simp⟩
theorem Ext.trans {a b c : Ren} (h : Ext a b) (k : Ext b c) : Ext a c := by
  obtain ⟨l, rfl⟩ := h
  obtain ⟨m, rfl⟩ := k
  exact ⟨l ++ m, by simp⟩
theorem Ext.snoc (u : Ren) (b : Option (Nat × Nat × Nat)) : Ext u (u ++ [b]) := ⟨[b], rfl⟩
theorem Ext.sub {u u' : Ren} (h : Ext u u') : Sub u u' := fun r s hr => by
  obtain ⟨l, rfl⟩ := h
  rw [ent_some] at hr ⊢
  have hlt : r < u.length := (List.getElem?_eq_some_iff.1 hr).1
  rw [List.getElem?_append_left hlt]; exact hr
theorem Ext.old {u u' : Ren} (h : Ext u u') {r : Nat} (hr : r < u.length) : ent u' r = ent u r := by
  obtain ⟨l, rfl⟩ := h
  unfold ent; rw [List.getElem?_append_left hr]
theorem RR.sub {u u' : Ren} {r s : Nat} (h : RR u r s) (he : Sub u u') : RR u' r s := let ⟨n, z, h⟩ := h; ⟨n, z, he _ _ h⟩
theorem RR.ext {u u' : Ren} {r s : Nat} (h : RR u r s) (he : Ext u u') : RR u' r s := h.sub he.sub
theorem RR.uniq {u : Ren} {r s t : Nat} (h : RR u r s) (k : RR u r t) : s = t := by
  obtain ⟨n, z, h⟩ := h
  obtain ⟨m, y, k⟩ := k
  rw [h] at k
  cases k; rfl
theorem AR.sub {u u' : Ren} {a b : Addr} (h : AR u a b) (he : Sub u u') : AR u' a b := ⟨h.1.sub he, h.2⟩
theorem AR.ext {u u' : Ren} {a b : Addr} (h : AR u a b) (he : Ext u u') : AR u' a b := h.sub he.sub
/-- room: a slice at b of so many elements lies in its block -/
def Room (u : Ren) (a b : Addr) (c : Nat) : Prop := ∃ n z, ent u a.block = some (b.block, n, z) ∧ b.off + c * z ≤ n
theorem Room.sub {u u' : Ren} {a b : Addr} {c : Nat} (h : Room u a b c) (he : Sub u u') : Room u' a b c := let ⟨n, z, h, k⟩ := h; ⟨n, z, he _ _ h, k⟩
theorem Room.ext {u u' : Ren} {a b : Addr} {c : Nat} (h : Room u a b c) (he : Ext u u') : Room u' a b c := h.sub he.sub
theorem AR.add {u : Ren} {a b : Addr} (h : AR u a b) (n : Nat) : AR u (a.add n) (b.add n) := by
  unfold Addr.add
  split
  · exact h
  · exact ⟨h.1, by simp [h.2.1], rfl⟩

inductive FnR (u : Ren) : Fn → Fn → Prop
  | func (f : FuncId) : FnR u (.func f) (.func f)
  | method (n : String) : FnR u (.method n) (.method n)
  | methodOf (t : TypeId) (n : String) : FnR u (.methodOf t n) (.methodOf t n)
  | via (t : TypeId) (p : Array FieldStep) (f : FuncId) (b : Bool) : FnR u (.via t p f b) (.via t p f b)
  | yield {l m : Nat} (h : RR u l m) : FnR u (.yield l) (.yield m)

inductive VR (u : Ren) : Value → Value → Prop
  | bool (b : Bool) : VR u (.bool b) (.bool b)
  | int (k : IntKind) (n : Int) : VR u (.int k n) (.int k n)
  | float (k : FloatKind) (b : Nat) : VR u (.float k b) (.float k b)
  | complex (k : FloatKind) (x y : Nat) : VR u (.complex k x y) (.complex k x y)
  | string (s : ByteArray) : VR u (.string s) (.string s)
  | ptrNil : VR u (.pointer none) (.pointer none)
  | ptr {a b : Addr} (h : AR u a b) : VR u (.pointer (some a)) (.pointer (some b))
  | sliceNil (n c : Nat) : VR u (.slice none n c) (.slice none n c)
  | slice {a b : Addr} (n c : Nat) (h : AR u a b) (hc : c < BIG) : VR u (.slice (some a) n c) (.slice (some b) n c)
  | sliceG {a b : Addr} (n c c' : Nat) (h : AR u a b) (hn : n ≤ c) (hc : c ≤ c') (hr : Room u a b c') : VR u (.slice (some a) n (BIG + c)) (.slice (some b) n c')
  | mapNil : VR u (.map none) (.map none)
  | map {r s : Nat} (h : RR u r s) : VR u (.map (some r)) (.map (some s))
  | chanNil : VR u (.chan none) (.chan none)
  | func {f g : Fn} {fs gs cs ds : Array Value} (h : FnR u f g) (h1 : fs.size = gs.size) (h2 : ∀ (i : Nat) (a b : Value), fs[i]? = some a → gs[i]? = some b → VR u a b)
      (h3 : cs.size = ds.size) (h4 : ∀ (i : Nat) (a b : Value), cs[i]? = some a → ds[i]? = some b → VR u a b) : VR u (.func f fs cs) (.func g gs ds)
  | nilFunc : VR u .nilFunc .nilFunc
  | iface (t : TypeId) {v v' : Value} (h : VR u v v') : VR u (.iface t v) (.iface t v')
  | nilIface : VR u .nilIface .nilIface
  | agg {cs ds : Array Value} (h1 : cs.size = ds.size) (h2 : ∀ (i : Nat) (a b : Value), cs[i]? = some a → ds[i]? = some b → VR u a b) : VR u (.agg cs) (.agg ds)
  | tuple {cs ds : Array Value} (h1 : cs.size = ds.size) (h2 : ∀ (i : Nat) (a b : Value), cs[i]? = some a → ds[i]? = some b → VR u a b) : VR u (.tuple cs) (.tuple ds)

theorem FnR.sub {u u' : Ren} {f g : Fn} (h : FnR u f g) (he : Sub u u') : FnR u' f g := by
  cases h with
  | func f => exact .func f
  | method n => exact .method n
  | methodOf t n => exact .methodOf t n
  | via t p f b => exact .via t p f b
  | yield h => exact .yield (h.sub he)

theorem VR.sub {u u' : Ren} {v v' : Value} (h : VR u v v') (he : Sub u u') : VR u' v v' := by
  induction h with
  | bool b => exact .bool b
  | int k n => exact .int k n
  | float k b => exact .float k b
  | complex k x y => exact .complex k x y
  | string s => exact .string s
  | ptrNil => exact .ptrNil
  | ptr h => exact .ptr (h.sub he)
  | sliceNil n c => exact .sliceNil n c
  | slice n c h hc => exact .slice n c (h.sub he) hc
  | sliceG n c c' h hn hc hr => exact .sliceG n c c' (h.sub he) hn hc (hr.sub he)
  | mapNil => exact .mapNil
  | map h => exact .map (h.sub he)
  | chanNil => exact .chanNil
  | func h h1 h2 h3 h4 ih2 ih4 => exact .func (h.sub he) h1 (fun i a b x y => ih2 i a b x y) h3 (fun i a b x y => ih4 i a b x y)
  | nilFunc => exact .nilFunc
  | iface t h ih => exact .iface t ih
  | nilIface => exact .nilIface
  | agg h1 h2 ih => exact .agg h1 (fun i a b x y => ih i a b x y)
  | tuple h1 h2 ih => exact .tuple h1 (fun i a b x y => ih i a b x y)

theorem FnR.ext {u u' : Ren} {f g : Fn} (h : FnR u f g) (he : Ext u u') : FnR u' f g := h.sub he.sub
theorem VR.ext {u u' : Ren} {v v' : Value} (h : VR u v v') (he : Ext u u') : VR u' v v' := h.sub he.sub

/-- rows of values, place for place -/
def VRs (u : Ren) (cs ds : Array Value) : Prop := cs.size = ds.size ∧ ∀ (i : Nat) (a b : Value), cs[i]? = some a → ds[i]? = some b → VR u a b
theorem VRs.sub {u u' : Ren} {cs ds : Array Value} (h : VRs u cs ds) (he : Sub u u') : VRs u' cs ds := ⟨h.1, fun i a b x y => (h.2 i a b x y).sub he⟩
theorem VRs.ext {u u' : Ren} {cs ds : Array Value} (h : VRs u cs ds) (he : Ext u u') : VRs u' cs ds := h.sub he.sub
theorem VRs.get {u : Ren} {cs ds : Array Value} (h : VRs u cs ds) {i : Nat} {a : Value} (ha : cs[i]? = some a) : ∃ b, ds[i]? = some b ∧ VR u a b := by
  obtain ⟨hlt, _⟩ := Array.getElem?_eq_some_iff.1 ha
  have hb : ds[i]? = some (ds[i]'(h.1 ▸ hlt)) := Array.getElem?_eq_getElem _
  exact ⟨_, hb, h.2 i a _ ha hb⟩
theorem VRs.get_none {u : Ren} {cs ds : Array Value} (h : VRs u cs ds) {i : Nat} (ha : cs[i]? = none) : ds[i]? = none := by
  rw [Array.getElem?_eq_none_iff] at *; rw [← h.1]; exact ha
theorem VRs.nil (u : Ren) : VRs u #[] #[] := ⟨rfl, fun i a b h => by simp at h⟩
theorem VRs.push {u : Ren} {cs ds : Array Value} {a b : Value} (h : VRs u cs ds) (hv : VR u a b) : VRs u (cs.push a) (ds.push b) := by
  refine ⟨by simp [h.1], fun i x y hx hy => ?_⟩
  rw [Array.getElem?_push] at hx hy
  rw [h.1] at hx
  split at hx
  · rename_i e; rw [if_pos e] at hy; cases hx; cases hy; exact hv
  · rename_i e; rw [if_neg e] at hy; exact h.2 i x y hx hy
theorem VRs.append {u : Ren} {cs ds cs' ds' : Array Value} (h : VRs u cs ds) (h' : VRs u cs' ds') : VRs u (cs ++ cs') (ds ++ ds') := by
  refine ⟨by simp [h.1, h'.1], fun i x y hx hy => ?_⟩
  rw [Array.getElem?_append] at hx hy
  rw [h.1] at hx
  split at hx
  · rename_i e; rw [if_pos e] at hy; exact h.2 i x y hx hy
  · rename_i e; rw [if_neg e] at hy; exact h'.2 _ x y hx hy
theorem VRs.set {u : Ren} {cs ds : Array Value} {a b : Value} (h : VRs u cs ds) (hv : VR u a b) (j : Nat) : VRs u (cs.setIfInBounds j a) (ds.setIfInBounds j b) := by
  refine ⟨by simp [h.1], fun i x y hx hy => ?_⟩
  rw [Array.getElem?_setIfInBounds] at hx hy
  rw [h.1] at hx
  split at hx
  · rename_i e; rw [if_pos e] at hy
    split at hx
    · rename_i e2; rw [if_pos e2] at hy; cases hx; cases hy; exact hv
    · cases hx
  · rename_i e; rw [if_neg e] at hy; exact h.2 i x y hx hy
theorem VRs.extract {u : Ren} {cs ds : Array Value} (h : VRs u cs ds) (i j : Nat) : VRs u (cs.extract i j) (ds.extract i j) := by
  refine ⟨by simp [h.1], fun k x y hx hy => ?_⟩
  rw [Array.getElem?_extract] at hx hy
  rw [h.1] at hx
  split at hx
  · rename_i e; rw [if_pos e] at hy; exact h.2 _ x y hx hy
  · cases hx
theorem VRs.getD {u : Ren} {cs ds : Array Value} (h : VRs u cs ds) {v v' : Value} (hv : VR u v v') (i : Nat) : VR u (cs.getD i v) (ds.getD i v') := by
  rw [Array.getD_eq_getD_getElem?, Array.getD_eq_getD_getElem?]
  cases hc : cs[i]? with
  | none => rw [h.get_none hc]; exact hv
  | some a => obtain ⟨b, hb, hr⟩ := h.get hc; rw [hb]; exact hr
theorem VR.undef (u : Ren) : VR u undef undef := .tuple rfl (fun i a b h => by simp at h)
theorem VRs.replicate {u : Ren} {v v' : Value} (h : VR u v v') (n : Nat) : VRs u (Array.replicate n v) (Array.replicate n v') := by
  refine ⟨by simp, fun i x y hx hy => ?_⟩
  rw [Array.getElem?_replicate] at hx hy
  split at hx
  · rename_i e; rw [if_pos e] at hy; cases hx; cases hy; exact h
  · cases hx
theorem VRs.cells {u : Ren} {v v' : Value} (h : VR u v v') : VRs u v.cells v'.cells := by
  have one : ∀ {a b : Value}, VR u a b → VRs u #[a] #[b] := fun hab => (VRs.nil u).push hab
  cases h with
  | agg h1 h2 => exact ⟨h1, h2⟩
  | bool b => exact one (.bool b)
  | int k n => exact one (.int k n)
  | float k b => exact one (.float k b)
  | complex k x y => exact one (.complex k x y)
  | string s => exact one (.string s)
  | ptrNil => exact one .ptrNil
  | ptr h => exact one (.ptr h)
  | sliceNil n c => exact one (.sliceNil n c)
  | slice n c h hc => exact one (.slice n c h hc)
  | sliceG n c c' h hn hc hr => exact one (.sliceG n c c' h hn hc hr)
  | mapNil => exact one .mapNil
  | map h => exact one (.map h)
  | chanNil => exact one .chanNil
  | func h h1 h2 h3 h4 => exact one (.func h h1 h2 h3 h4)
  | nilFunc => exact one .nilFunc
  | iface t h => exact one (.iface t h)
  | nilIface => exact one .nilIface
  | tuple h1 h2 => exact one (.tuple h1 h2)

theorem RR.restrict {u u' : Ren} (he : Sub u u') {r s t : Nat} (h : RR u' r s) (k : RR u r t) : RR u r s := by
  have := h.uniq (k.sub he)
  subst this
  exact k
theorem AR.restrict {u u' : Ren} (he : Sub u u') {a b c : Addr} (h : AR u' a b) (k : AR u a c) : AR u a b := ⟨h.1.restrict he k.1, h.2⟩
theorem Room.restrict {u u' : Ren} (he : Sub u u') {a b c : Addr} {n : Nat} (h : Room u' a b n) (k : AR u a c) : Room u a b n := by
  obtain ⟨m, z, h1, h2⟩ := h
  obtain ⟨m', z', k1⟩ := k.1
  have e := he _ _ k1
  rw [h1] at e
  exact ⟨m, z, by rw [k1, ← Option.some.inj e], h2⟩
theorem FnR.restrict {u u' : Ren} (he : Sub u u') {f g g0 : Fn} (h : FnR u' f g) (k : FnR u f g0) : FnR u f g := by
  cases h with
  | func f => exact .func f
  | method n => exact .method n
  | methodOf t n => exact .methodOf t n
  | via t p f b => exact .via t p f b
  | yield h => cases k with | yield k => exact .yield (h.restrict he k)
/-- what is known under a smaller renaming is so already there -/
theorem VR.restrict {u u' : Ren} (he : Sub u u') {v v' : Value} (h : VR u' v v') : ∀ {v0 : Value}, VR u v v0 → VR u v v' := by
  have row : ∀ {cs ds es : Array Value}, cs.size = es.size → (∀ (i : Nat) (a b : Value), cs[i]? = some a → ds[i]? = some b → ∀ {v0 : Value}, VR u a v0 → VR u a b) → (∀ (i : Nat) (a b : Value), cs[i]? = some a → es[i]? = some b → VR u a b) →
      ∀ (i : Nat) (a b : Value), cs[i]? = some a → ds[i]? = some b → VR u a b := fun {cs ds es} hn ih hk i a b ha hb => by
    obtain ⟨hlt, _⟩ := Array.getElem?_eq_some_iff.1 ha
    exact ih i a b ha hb (hk i a _ ha (Array.getElem?_eq_getElem (hn ▸ hlt)))
  induction h with
  | bool b => exact fun _ => .bool b
  | int k n => exact fun _ => .int k n
  | float k b => exact fun _ => .float k b
  | complex k x y => exact fun _ => .complex k x y
  | string s => exact fun _ => .string s
  | ptrNil => exact fun _ => .ptrNil
  | ptr h => intro v0 k; cases k with | ptr k => exact .ptr (h.restrict he k)
  | sliceNil n c => exact fun _ => .sliceNil n c
  | slice n c h hc =>
    intro v0 k
    cases k with
    | slice _ _ k _ => exact .slice n c (h.restrict he k) hc
    | sliceG _ c0 c' k hn h2 hr => exact absurd hc (by omega)
  | @sliceG a b n c c' h hn hc hr =>
    intro v0 k
    have key : ∀ b0, AR u a b0 → VR u (.slice (some a) n (BIG + c)) (.slice (some b) n c') := fun b0 k => .sliceG n c c' (h.restrict he k) hn hc (hr.restrict he k)
    have : ∃ b0, AR u a b0 := by
      generalize hv : Value.slice (some a) n (BIG + c) = v at k
      cases k with
      | slice _ _ k _ => cases hv; exact ⟨_, k⟩
      | sliceG _ _ _ k _ _ _ => injection hv with h1 h2 h3; cases h1; exact ⟨_, k⟩
      | _ => cases hv
    obtain ⟨b0, k0⟩ := this
    exact key b0 k0
  | mapNil => exact fun _ => .mapNil
  | map h => intro v0 k; cases k with | map k => exact .map (h.restrict he k)
  | chanNil => exact fun _ => .chanNil
  | func h h1 h2 h3 h4 ih2 ih4 => intro v0 k; cases k with | func k k1 k2 k3 k4 => exact .func (h.restrict he k) h1 (row k1 (fun i a b x y => ih2 i a b x y) k2) h3 (row k3 (fun i a b x y => ih4 i a b x y) k4)
  | nilFunc => exact fun _ => .nilFunc
  | iface t h ih => intro v0 k; cases k with | iface _ k => exact .iface t (ih k)
  | nilIface => exact fun _ => .nilIface
  | agg h1 h2 ih => intro v0 k; cases k with | agg k1 k2 => exact .agg h1 (row k1 (fun i a b x y => ih i a b x y) k2)
  | tuple h1 h2 ih => intro v0 k; cases k with | tuple k1 k2 => exact .tuple h1 (row k1 (fun i a b x y => ih i a b x y) k2)
theorem VRs.restrict {u u' : Ren} (he : Sub u u') {cs ds es : Array Value} (h : VRs u' cs ds) (k : VRs u cs es) : VRs u cs ds :=
  ⟨h.1, fun i a b ha hb => by
    obtain ⟨c, hc, hr⟩ := k.get ha
    exact (h.2 i a b ha hb).restrict he hr⟩
/-- a value without an address -/
def closed : Nat → Value → Bool
  | 0, _ => false
  | d + 1, v => match v with
    | .bool _ | .int _ _ | .float _ _ | .complex _ _ _ | .string _ | .pointer none | .slice none _ _ | .map none | .chan none | .nilFunc | .nilIface => true
    | .iface _ x => closed d x
    | .agg cs | .tuple cs => cs.toList.all (closed d)
    | .func f fs cs => (match f with | .yield _ => false | _ => true) && fs.toList.all (closed d) && cs.toList.all (closed d)
    | _ => false
theorem closed_all {d : Nat} {cs : Array Value} (h : cs.toList.all (closed d) = true) {i : Nat} {a : Value} (ha : cs[i]? = some a) : closed d a = true := by
  rw [List.all_eq_true] at h
  exact h a (by obtain ⟨hlt, he⟩ := Array.getElem?_eq_some_iff.1 ha; rw [← he]; simp)
theorem VR.of_closed {u : Ren} : ∀ {d : Nat} {v : Value}, closed d v = true → VR u v v
  | 0, _, h => by simp [closed] at h
  | d + 1, v, h => by
    have row : ∀ {cs : Array Value}, cs.toList.all (closed d) = true → ∀ (i : Nat) (a b : Value), cs[i]? = some a → cs[i]? = some b → VR u a b := fun hc i a b ha hb => by
      rw [ha] at hb; cases hb; exact VR.of_closed (closed_all hc ha)
    cases v with
    | bool b => exact .bool b
    | int k n => exact .int k n
    | float k b => exact .float k b
    | complex k x y => exact .complex k x y
    | string s => exact .string s
    | pointer a => cases a with | none => exact .ptrNil | some a => simp [closed] at h
    | slice a n c => cases a with | none => exact .sliceNil n c | some a => simp [closed] at h
    | map r => cases r with | none => exact .mapNil | some a => simp [closed] at h
    | chan r => cases r with | none => exact .chanNil | some a => simp [closed] at h
    | nilFunc => exact .nilFunc
    | nilIface => exact .nilIface
    | iface t x => exact .iface t (VR.of_closed (d := d) (by simpa [closed] using h))
    | agg cs => exact .agg rfl (row (by simpa only [closed] using h))
    | tuple cs => exact .tuple rfl (row (by simpa only [closed] using h))
    | func f fs cs =>
      simp only [closed, Bool.and_eq_true] at h
      refine .func ?_ rfl (row h.1.2) rfl (row h.2)
      cases f with
      | func f => exact .func f
      | method n => exact .method n
      | methodOf t n => exact .methodOf t n
      | via t p f b => exact .via t p f b
      | yield l => simp at h
theorem VR.eq_of_closed {u : Ren} {v v' : Value} (h : VR u v v') : ∀ {d : Nat}, closed d v = true → v' = v := by
  have ext : ∀ {cs ds : Array Value} {d : Nat}, cs.size = ds.size → (∀ (i : Nat) (a b : Value), cs[i]? = some a → ds[i]? = some b → ∀ {d : Nat}, closed d a = true → b = a) → cs.toList.all (closed d) = true → ds = cs :=
    fun {cs ds d} h1 ih hc => by
      apply Array.ext (h1.symm)
      intro i hi hi'
      have ha : cs[i]? = some cs[i] := Array.getElem?_eq_getElem hi'
      exact ih i _ _ ha (Array.getElem?_eq_getElem hi) (closed_all hc ha)
  induction h with
  | ptr h => intro d hd; cases d <;> simp [closed] at hd
  | slice n c h hc => intro d hd; cases d <;> simp [closed] at hd
  | sliceG n c c' h hn hc hr => intro d hd; cases d <;> simp [closed] at hd
  | map h => intro d hd; cases d <;> simp [closed] at hd
  | iface t h ih =>
    intro d hd
    cases d with
    | zero => simp [closed] at hd
    | succ d => rw [ih (d := d) (by simpa [closed] using hd)]
  | agg h1 h2 ih =>
    intro d hd
    cases d with
    | zero => simp [closed] at hd
    | succ d => rw [ext h1 (fun i a b x y => ih i a b x y) (by simpa only [closed] using hd)]
  | tuple h1 h2 ih =>
    intro d hd
    cases d with
    | zero => simp [closed] at hd
    | succ d => rw [ext h1 (fun i a b x y => ih i a b x y) (by simpa only [closed] using hd)]
  | func h h1 h2 h3 h4 ih2 ih4 =>
    intro d hd
    cases d with
    | zero => simp [closed] at hd
    | succ d =>
      simp only [closed, Bool.and_eq_true] at hd
      rw [ext h1 (fun i a b x y => ih2 i a b x y) hd.1.2, ext h3 (fun i a b x y => ih4 i a b x y) hd.2]
      cases h with
      | yield h => simp at hd
      | _ => rfl
  | _ => intro d _; rfl
end Go.Proofs.Simul
/-
  A canonical run serves every run. Part B: the memory of both runs, and the instructions' free monad.
-/
namespace Go.Proofs.Simul
open Go Go.RowKit

inductive TargetR (u : Ren) : Target → Target → Prop
  | fn {f g : Fn} {cs ds : Array Value} (h : FnR u f g) (h2 : VRs u cs ds) : TargetR u (.fn f cs) (.fn g ds)
  | nil : TargetR u .nil .nil
  | builtin (b : Builtin) (ts : Array TypeId) (t : TypeId) (cs : Array Bool) : TargetR u (.builtin b ts t cs) (.builtin b ts t cs)
  | collected {r s : Nat} (h : RR u r s) : TargetR u (.collected r) (.collected s)
structure DR (u : Ren) (d e : Deferred) : Prop where
  target : TargetR u d.target e.target
  args : VRs u d.args e.args
inductive DRs (u : Ren) : List Deferred → List Deferred → Prop
  | nil : DRs u [] []
  | cons {d e : Deferred} {ds es : List Deferred} (h : DR u d e) (hs : DRs u ds es) : DRs u (d :: ds) (e :: es)
structure LoopR (u : Ren) (l m : Loop) : Prop where
  state : m.state = l.state
  pending : m.pending = l.pending
  fn : m.fn = l.fn
  tmps : VRs u l.tmps m.tmps
  params : m.params = l.params
  assign : m.assign = l.assign
  body : m.body = l.body
  defers : RR u l.defers m.defers
theorem TargetR.sub {u u' : Ren} {s t : Target} (h : TargetR u s t) (he : Sub u u') : TargetR u' s t := by
  cases h with
  | fn h h2 => exact .fn (h.sub he) (h2.sub he)
  | nil => exact .nil
  | builtin b ts t cs => exact .builtin b ts t cs
  | collected h => exact .collected (h.sub he)
theorem DR.sub {u u' : Ren} {d e : Deferred} (h : DR u d e) (he : Sub u u') : DR u' d e := ⟨h.1.sub he, h.2.sub he⟩
theorem DRs.sub {u u' : Ren} {ds es : List Deferred} (h : DRs u ds es) (he : Sub u u') : DRs u' ds es := by
  induction h with
  | nil => exact .nil
  | cons h hs ih => exact .cons (h.sub he) ih
theorem DRs.append {u : Ren} {ds es ds' es' : List Deferred} (h : DRs u ds es) (h' : DRs u ds' es') : DRs u (ds ++ ds') (es ++ es') := by
  induction h with
  | nil => exact h'
  | cons h hs ih => exact .cons h ih
theorem LoopR.sub {u u' : Ren} {l m : Loop} (h : LoopR u l m) (he : Sub u u') : LoopR u' l m :=
  ⟨h.1, h.2, h.3, h.4.sub he, h.5, h.6, h.7, h.8.sub he⟩
def MapR (u : Ren) (es fs : Array MapEntry) : Prop :=
  es.size = fs.size ∧ ∀ (i : Nat) (x y : MapEntry), es[i]? = some x → fs[i]? = some y → VR u x.key y.key ∧ VR u x.val y.val ∧ y.born = x.born

def dead : Obj := .pending #[] 0
inductive OR (u : Ren) : Obj → Obj → Prop
  | cells {c c' : Array Value} {e : TypeId} {fz : Nat × Nat} (h1 : c.size ≤ c'.size) (h2 : ∀ (i : Nat) (a b : Value), c[i]? = some a → c'[i]? = some b → VR u a b)
      (h3 : fz.2 ≤ fz.1 ∨ c'.size ≤ fz.1) : OR u (.cells c e (0, 0)) (.cells c' e fz)
  | map {es fs : Array MapEntry} {clock : Nat} (h : MapR u es fs) : OR u (.map es clock) (.map fs clock)
  | stringIter (s : ByteArray) (p : Nat) : OR u (.stringIter s p) (.stringIter s p)
  | mapIterNil (since : Nat) (seen : Array Nat) (stepped : Nat) : OR u (.mapIter none since seen stepped) (.mapIter none since seen stepped)
  | mapIter {r s : Nat} (h : RR u r s) (since : Nat) (seen : Array Nat) (stepped : Nat) : OR u (.mapIter (some r) since seen stepped) (.mapIter (some s) since seen stepped)
  | loop {l m : Loop} (h : LoopR u l m) : OR u (.loop l) (.loop m)
  | deferredNone : OR u (.deferred none) (.deferred none)
  | deferred {ds es : List Deferred} (h : DRs u ds es) : OR u (.deferred (some ds)) (.deferred (some es))
  | gone (o : Obj) : OR u dead o
theorem OR.sub {u u' : Ren} {o o' : Obj} (h : OR u o o') (he : Sub u u') : OR u' o o' := by
  cases h with
  | cells h1 h2 h3 => exact .cells h1 (fun i a b x y => (h2 i a b x y).sub he) h3
  | map h => exact .map ⟨h.1, fun i x y hx hy => let ⟨a, b, c⟩ := h.2 i x y hx hy; ⟨a.sub he, b.sub he, c⟩⟩
  | stringIter s p => exact .stringIter s p
  | mapIterNil a b c => exact .mapIterNil a b c
  | mapIter h a b c => exact .mapIter (h.sub he) a b c
  | loop h => exact .loop (h.sub he)
  | deferredNone => exact .deferredNone
  | deferred h => exact .deferred (h.sub he)
  | gone => exact .gone _

theorem TargetR.ext {u u' : Ren} {s t : Target} (h : TargetR u s t) (he : Ext u u') : TargetR u' s t := h.sub he.sub
theorem DR.ext {u u' : Ren} {d e : Deferred} (h : DR u d e) (he : Ext u u') : DR u' d e := h.sub he.sub
theorem DRs.ext {u u' : Ren} {ds es : List Deferred} (h : DRs u ds es) (he : Ext u u') : DRs u' ds es := h.sub he.sub
theorem LoopR.ext {u u' : Ren} {l m : Loop} (h : LoopR u l m) (he : Ext u u') : LoopR u' l m := h.sub he.sub
theorem OR.ext {u u' : Ren} {o o' : Obj} (h : OR u o o') (he : Ext u u') : OR u' o o' := h.sub he.sub
theorem TargetR.restrict {u u' : Ren} (he : Sub u u') {s t r : Target} (h : TargetR u' s t) (k : TargetR u s r) : TargetR u s t := by
  cases h with
  | fn h h2 => cases k with | fn k k2 => exact .fn (h.restrict he k) (h2.restrict he k2)
  | nil => exact .nil
  | builtin b ts t cs => exact .builtin b ts t cs
  | collected h => cases k with | collected k => exact .collected (h.restrict he k)
theorem DRs.restrict {u u' : Ren} (he : Sub u u') {ds es : List Deferred} (h : DRs u' ds es) : ∀ {fs : List Deferred}, DRs u ds fs → DRs u ds es := by
  induction h with
  | nil => exact fun _ => .nil
  | cons h hs ih => intro fs k; cases k with | cons k ks => exact .cons ⟨h.1.restrict he k.1, h.2.restrict he k.2⟩ (ih ks)
theorem OR.restrict {u u' : Ren} (he : Sub u u') {o o' o0 : Obj} (h : OR u' o o') (k : OR u o o0) : OR u o o' := by
  cases h with
  | @cells c c' e fz h1 h2 h3 =>
    refine .cells h1 (fun i a b ha hb => ?_) h3
    generalize hod : Obj.cells c e (0, 0) = od at k
    cases k with
    | cells k1 k2 k3 =>
      cases hod
      obtain ⟨hlt, _⟩ := Array.getElem?_eq_some_iff.1 ha
      exact (h2 i a b ha hb).restrict he (k2 i a _ ha (Array.getElem?_eq_getElem (Nat.lt_of_lt_of_le hlt k1)))
    | _ => cases hod
  | @map es fs clock h =>
    refine .map ⟨h.1, fun i x y hx hy => ?_⟩
    generalize hod : Obj.map es clock = od at k
    cases k with
    | map k =>
      cases hod
      obtain ⟨hlt, _⟩ := Array.getElem?_eq_some_iff.1 hx
      obtain ⟨k1, k2, _⟩ := k.2 i x _ hx (Array.getElem?_eq_getElem (k.1 ▸ hlt))
      obtain ⟨h1, h2, h3⟩ := h.2 i x y hx hy
      exact ⟨h1.restrict he k1, h2.restrict he k2, h3⟩
    | _ => cases hod
  | stringIter s p => exact .stringIter s p
  | mapIterNil a b c => exact .mapIterNil a b c
  | @mapIter r s h a b c =>
    generalize hod : Obj.mapIter (some r) a b c = od at k
    cases k with
    | mapIter k => cases hod; exact .mapIter (h.restrict he k) a b c
    | _ => cases hod
  | @loop l m h =>
    generalize hod : Obj.loop l = od at k
    cases k with
    | loop k => cases hod; exact .loop ⟨h.1, h.2, h.3, h.4.restrict he k.4, h.5, h.6, h.7, h.8.restrict he k.8⟩
    | _ => cases hod
  | deferredNone => exact .deferredNone
  | @deferred ds es h =>
    generalize hod : Obj.deferred (some ds) = od at k
    cases k with
    | deferred k => cases hod; exact .deferred (h.restrict he k)
    | _ => cases hod
  | gone => exact .gone _

/-- THE MEMORY: h the canonical one, w the other; N: how many blocks lay there before -/
structure HR (P : Program) (N : Nat → Prop) (u : Ren) (h w : World) : Prop where
  base : ∀ b, N b → b < w.heap.size
  size : h.heap.size = u.length
  own : ∀ r s, RR u r s → ¬ N s ∧ s < w.heap.size
  full : ∀ (r : Nat) (o : Obj), h.heap[r]? = some o → o ≠ dead → ∃ s, RR u r s
  inj : ∀ r r' s, RR u r s → RR u r' s → h.heap[r]? ≠ some dead → h.heap[r']? ≠ some dead → r = r'
  obj : ∀ r s o, RR u r s → h.heap[r]? = some o → ∃ o', w.heap[s]? = some o' ∧ OR u o o'
  room : ∀ (r s n z : Nat) (c : Array Value) (e : TypeId) (fz : Nat × Nat), ent u r = some (s, n, z) → h.heap[r]? = some (.cells c e fz) →
    z = P.cellsOf e ∧ ∃ (c' : Array Value) (fz' : Nat × Nat), w.heap[s]? = some (.cells c' e fz') ∧ n ≤ c'.size

section
variable {P : Program} {N : Nat → Prop} {u : Ren} {h w : World}
theorem HR.heap {h' w' : World} (H : HR P N u h w) (e1 : h'.heap = h.heap) (e2 : w'.heap = w.heap) : HR P N u h' w' :=
  ⟨e2 ▸ H.base, e1 ▸ H.size, e2 ▸ H.own, e1 ▸ H.full, e1 ▸ H.inj, by rw [e1, e2]; exact H.obj, by rw [e1, e2]; exact H.room⟩
theorem HR.ref (H : HR P N u h w) {r : Nat} {o : Obj} (hr : h.heap[r]? = some o) (ho : o ≠ dead) : ∃ s, RR u r s := H.full r o hr ho
theorem cell_some {x : World} {a : Addr} {v : Value} (hv : x.cell? a = some v) : ∃ c e fz, x.heap[a.block]? = some (.cells c e fz) ∧ a.spot = none ∧ c[a.off]? = some v := by
  unfold World.cell? at hv
  split at hv
  · rename_i c e fz hb
    split at hv
    · cases hv
    · rename_i hs
      refine ⟨c, e, fz, hb, ?_, hv⟩
      cases hsp : a.spot with
      | none => rfl
      | some x => rw [hsp] at hs; simp at hs
  · cases hv
theorem HR.cell (H : HR P N u h w) {a b : Addr} {v : Value} (ha : AR u a b) (hv : h.cell? a = some v) : ∃ v', w.cell? b = some v' ∧ VR u v v' ∧ w.frozen? b = false := by
  obtain ⟨c, e, fz, hb, hs, hc⟩ := cell_some hv
  obtain ⟨o', ho', hor⟩ := H.obj _ _ _ ha.1 hb
  generalize hod : Obj.cells c e fz = od at hor
  cases hor with
  | @cells c0 c' _ fz h1 h2 h3 =>
    cases hod
    have hlt : a.off < c.size := (Array.getElem?_eq_some_iff.1 hc).1
    have hx : c'[a.off]? = some (c'[a.off]'(by omega)) := Array.getElem?_eq_getElem _
    refine ⟨_, ?_, h2 _ _ _ hc hx, ?_⟩
    · unfold World.cell?
      rw [ho']
      simp only [ha.2.1, ha.2.2, hs]
      exact hx
    · unfold World.frozen?
      rw [ho']
      simp only [ha.2.1, Bool.and_eq_false_iff, decide_eq_false_iff_not]
      rcases h3 with h3 | h3 <;> omega
  | _ => cases hod
theorem heap_setCell_at (x : World) (a : Addr) (v : Value) (r : Nat) : (x.setCell a v).heap[r]? = if a.block = r then (x.heap[r]?).map (fun
      | .cells c elem frozen => .cells (if a.spot.isSome then c else c.setIfInBounds a.off v) elem frozen
      | o => o) else x.heap[r]? := by
  unfold World.setCell
  exact Array.getElem?_modify
theorem heap_alloc_at (x : World) (o : Obj) (r : Nat) : (x.alloc o).heap[r]? = if r = x.heap.size then some o else x.heap[r]? := Array.getElem?_push
theorem size_alloc (x : World) (o : Obj) : (x.alloc o).heap.size = x.heap.size + 1 := Array.size_push _
theorem HR.setCell (H : HR P N u h w) {a b : Addr} {v0 v v' : Value} (ha : AR u a b) (h0 : h.cell? a = some v0) (hv : VR u v v') : HR P N u (h.setCell a v) (w.setCell b v') := by
  obtain ⟨c, e, fz, hb, hs, hc⟩ := cell_some h0
  have hbs : b.spot = none := by rw [ha.2.2, hs]
  have hnd : ∀ o : Obj, h.heap[a.block]? = some o → o ≠ dead := fun o ho => by rw [hb] at ho; cases ho; simp [dead]
  have hdead : ∀ r, (h.setCell a v).heap[r]? = some dead ↔ h.heap[r]? = some dead := fun r => by
    rw [heap_setCell_at]
    by_cases er : a.block = r
    · subst er; rw [if_pos rfl, hb]; simp [dead]
    · rw [if_neg er]
  have hfull : ∀ (r : Nat) (o : Obj), (h.setCell a v).heap[r]? = some o → o ≠ dead → ∃ s, RR u r s := fun r o ho hod => by
    rw [heap_setCell_at] at ho
    by_cases er : a.block = r
    · subst er; exact H.full _ _ hb (hnd _ hb)
    · rw [if_neg er] at ho; exact H.full r o ho hod
  refine ⟨by simpa [World.setCell] using H.base, by simpa [World.setCell] using H.size, fun r s hr => by simpa [World.setCell] using H.own r s hr, hfull, fun r r' s hr hr' x y => H.inj r r' s hr hr' (fun z => x ((hdead r).2 z)) (fun z => y ((hdead r').2 z)), ?_, ?_⟩
  rotate_left
  · intro r s n z c1 e1 fz1 hr ho
    rw [heap_setCell_at] at ho ⊢
    have hcells : ∃ c0 e0 fz0, h.heap[r]? = some (.cells c0 e0 fz0) ∧ e0 = e1 := by
      by_cases er : a.block = r
      · subst er; rw [if_pos rfl, hb] at ho; simp at ho; exact ⟨_, _, _, hb, ho.2.1⟩
      · rw [if_neg er] at ho; exact ⟨_, _, _, ho, rfl⟩
    obtain ⟨c0, e0, fz0, h0', rfl⟩ := hcells
    obtain ⟨hz, c', fz', hw, hn⟩ := H.room r s n z c0 _ fz0 hr h0'
    refine ⟨hz, ?_⟩
    by_cases es : b.block = s
    · rw [if_pos es, hw]; exact ⟨_, _, rfl, by split <;> simpa using hn⟩
    · rw [if_neg es]; exact ⟨_, _, hw, hn⟩
  intro r s o hr ho
  rw [heap_setCell_at] at ho ⊢
  by_cases er : a.block = r
  · subst er
    rw [if_pos rfl, hb] at ho
    simp only [Option.map_some, Option.some.injEq] at ho
    have hsb : s = b.block := hr.uniq ha.1
    subst hsb
    obtain ⟨o', ho', hor⟩ := H.obj _ _ _ hr hb
    rw [if_pos rfl, ho']
    generalize hod : Obj.cells c e fz = od at hor
    cases hor with
    | @cells c0 c' _ fz h1 h2 h3 =>
      cases hod
      refine ⟨_, rfl, ?_⟩
      subst ho
      simp only [hs, hbs, Option.isSome_none, Bool.false_eq_true, if_false]
      refine .cells (by simpa using h1) (fun i x y hx hy => ?_) (by simpa using h3)
      rw [Array.getElem?_setIfInBounds] at hx hy
      rw [ha.2.1] at hy
      have hlt : a.off < c.size := (Array.getElem?_eq_some_iff.1 hc).1
      by_cases ei : a.off = i
      · rw [if_pos ei, if_pos hlt] at hx
        rw [if_pos ei, if_pos (by omega)] at hy
        cases hx; cases hy; exact hv
      · rw [if_neg ei] at hx hy
        exact h2 i x y hx hy
    | _ => cases hod
  · rw [if_neg er] at ho
    obtain ⟨o', ho', hor⟩ := H.obj r s o hr ho
    by_cases ed : o = dead
    · subst ed
      by_cases es : b.block = s
      · rw [if_pos es, ho']; exact ⟨_, rfl, .gone _⟩
      · rw [if_neg es]; exact ⟨_, ho', .gone _⟩
    · have hne : b.block ≠ s := fun es => er (H.inj _ _ s (es ▸ ha.1) hr (fun z => hnd _ z rfl) (fun z => ed (by rw [ho] at z; exact Option.some.inj z)))
      rw [if_neg hne]
      exact ⟨_, ho', hor⟩
/-- the other memory may grow -/
theorem HR.widen (H : HR P N u h w) (o : Obj) : HR P N u h (w.alloc o) := by
  have old : ∀ r s, RR u r s → (w.alloc o).heap[s]? = w.heap[s]? := fun r s hr => by
    have := (H.own r s hr).2
    rw [heap_alloc_at, if_neg (by omega)]
  refine ⟨fun b hb => by rw [size_alloc]; have := H.base b hb; omega, H.size, fun r s hr => by have := H.own r s hr; rw [size_alloc]; exact ⟨this.1, by omega⟩, H.full, H.inj, fun r s o1 hr ho1 => ?_, fun r s n z c e fz hr ho1 => ?_⟩
  · rw [old r s hr]; exact H.obj r s o1 hr ho1
  · rw [old r s ⟨_, _, hr⟩]; exact H.room r s n z c e fz hr ho1
/-- a new canonical block, for which a block of the other memory stands that served none -/
theorem HR.adopt (H : HR P N u h w) {o : Obj} {t n z : Nat} (ht : ¬ N t) (hlt : t < w.heap.size) (hfree : ∀ r, RR u r t → h.heap[r]? = some dead)
    (ho : ∃ o', w.heap[t]? = some o' ∧ OR (u ++ [some (t, n, z)]) o o')
    (hroom : ∀ (c : Array Value) (e : TypeId) (fz : Nat × Nat), o = .cells c e fz → z = P.cellsOf e ∧ ∃ (c' : Array Value) (fz' : Nat × Nat), w.heap[t]? = some (.cells c' e fz') ∧ n ≤ c'.size) :
    HR P N (u ++ [some (t, n, z)]) (h.alloc o) w := by
  have hnew : ∀ r x, ent (u ++ [some (t, n, z)]) r = some x → (ent u r = some x ∧ r < h.heap.size) ∨ (r = h.heap.size ∧ x = (t, n, z)) := fun r x hr => by
    rw [ent_some, List.getElem?_append] at hr
    split at hr
    · exact .inl ⟨ent_some.2 hr, by rw [H.size]; assumption⟩
    · rename_i hlt
      right
      have : r - u.length = 0 := by
        rcases Nat.eq_zero_or_pos (r - u.length) with e | e
        · exact e
        · rw [List.getElem?_eq_none (by simp; omega)] at hr; cases hr
      rw [this] at hr
      simp only [List.getElem?_cons_zero, Option.some.injEq] at hr
      exact ⟨by rw [H.size]; omega, hr.symm⟩
  have hnew' : ∀ r s, RR (u ++ [some (t, n, z)]) r s → (RR u r s ∧ r < h.heap.size) ∨ (r = h.heap.size ∧ s = t) := fun r s ⟨a, b, hr⟩ => by
    rcases hnew r _ hr with ⟨h1, h2⟩ | ⟨h1, h2⟩
    · exact .inl ⟨⟨a, b, h1⟩, h2⟩
    · cases h2; exact .inr ⟨h1, rfl⟩
  have old : ∀ r, r < h.heap.size → (h.alloc o).heap[r]? = h.heap[r]? := fun r hr => by rw [heap_alloc_at, if_neg (by omega)]
  have hfull : ∀ (r : Nat) (o1 : Obj), (h.alloc o).heap[r]? = some o1 → o1 ≠ dead → ∃ s, RR (u ++ [some (t, n, z)]) r s := fun r o1 ho1 hod => by
    rw [heap_alloc_at] at ho1
    split at ho1
    · rename_i e; exact ⟨t, n, z, ent_some.2 (by rw [e, H.size]; simp)⟩
    · obtain ⟨s, hs⟩ := H.full r o1 ho1 hod
      exact ⟨s, hs.ext (Ext.snoc _ _)⟩
  refine ⟨H.base, by rw [size_alloc, H.size]; simp, fun r s hr => ?_, hfull, fun r r' s hr hr' x y => ?_, fun r s o1 hr ho1 => ?_, fun r s n1 z1 c e fz hr ho1 => ?_⟩
  · rcases hnew' r s hr with ⟨h1, _⟩ | ⟨_, rfl⟩
    · exact H.own r s h1
    · exact ⟨ht, hlt⟩
  · rcases hnew' r s hr with ⟨h1, l1⟩ | ⟨e1, e2⟩ <;> rcases hnew' r' s hr' with ⟨h2, l2⟩ | ⟨e3, e4⟩
    · rw [old r l1] at x; rw [old r' l2] at y; exact H.inj r r' s h1 h2 x y
    · subst e4; rw [old r l1] at x; exact (x (hfree r h1)).elim
    · subst e2; rw [old r' l2] at y; exact (y (hfree r' h2)).elim
    · omega
  · rcases hnew' r s hr with ⟨h1, l1⟩ | ⟨e1, e2⟩
    · rw [old r l1] at ho1
      obtain ⟨o', h2, h3⟩ := H.obj r s o1 h1 ho1
      exact ⟨o', h2, h3.ext (Ext.snoc _ _)⟩
    · subst e1; subst e2
      rw [heap_alloc_at, if_pos rfl] at ho1; cases ho1
      exact ho
  · rcases hnew r _ hr with ⟨h1, l1⟩ | ⟨e1, e2⟩
    · rw [old r l1] at ho1
      exact H.room r s n1 z1 c e fz h1 ho1
    · subst e1; cases e2
      rw [heap_alloc_at, if_pos rfl] at ho1; cases ho1
      exact hroom c e fz rfl
theorem HR.alloc (H : HR P N u h w) {o o' : Obj} {n z : Nat} (ho : OR (u ++ [some (w.heap.size, n, z)]) o o')
    (hroom : ∀ (c : Array Value) (e : TypeId) (fz : Nat × Nat), o = .cells c e fz → z = P.cellsOf e ∧ ∃ (c' : Array Value) (fz' : Nat × Nat), o' = .cells c' e fz' ∧ n ≤ c'.size) :
    HR P N (u ++ [some (w.heap.size, n, z)]) (h.alloc o) (w.alloc o') := by
  have hnew : (w.alloc o').heap[w.heap.size]? = some o' := by rw [heap_alloc_at, if_pos rfl]
  refine (H.widen o').adopt (fun hN => by have := H.base _ hN; omega) (by rw [size_alloc]; omega) (fun r hr => ?_) ⟨o', hnew, ho⟩ (fun c e fz hc => ?_)
  · have := (H.own _ _ hr).2; omega
  · obtain ⟨h1, c', fz', h2, h3⟩ := hroom c e fz hc
    exact ⟨h1, c', fz', by rw [hnew, h2], h3⟩
def Obj.noCells : Obj → Prop
  | .cells .. => False
  | _ => True
/-- a block that is no row of cells is written whole -/
theorem HR.put (H : HR P N u h w) {r s : Nat} {o o' : Obj} (hr : RR u r s) (hd : h.heap[r]? ≠ some dead) (ho : OR u o o') (hnc : Obj.noCells o) (hwc : ∀ (c : Array Value) (e : TypeId) (fz : Nat × Nat), w.heap[s]? ≠ some (.cells c e fz)) :
    HR P N u { h with heap := h.heap.setIfInBounds r o } { w with heap := w.heap.setIfInBounds s o' } := by
  have hd2 : ∀ k, (h.heap.setIfInBounds r o)[k]? ≠ some dead → h.heap[k]? ≠ some dead := fun k hk hx => by
    rw [Array.getElem?_setIfInBounds] at hk
    by_cases e : r = k
    · subst e; exact hd hx
    · rw [if_neg e] at hk; exact hk hx
  have hfull : ∀ (k : Nat) (o1 : Obj), (h.heap.setIfInBounds r o)[k]? = some o1 → o1 ≠ dead → ∃ s, RR u k s := fun k o1 ho1 hod => by
    rw [Array.getElem?_setIfInBounds] at ho1
    by_cases e : r = k
    · subst e; exact ⟨_, hr⟩
    · rw [if_neg e] at ho1; exact H.full k o1 ho1 hod
  refine ⟨by simpa using H.base, by simpa using H.size, fun r s hr => by simpa using H.own r s hr, hfull, fun k k' t hk hk' x y => H.inj k k' t hk hk' (hd2 _ x) (hd2 _ y), ?_, ?_⟩
  · intro k t ok hk hok
    simp only [Array.getElem?_setIfInBounds] at hok ⊢
    have hts := (H.own _ _ hk).2
    by_cases e : r = k
    · subst e
      have : t = s := hk.uniq hr
      subst this
      rw [if_pos rfl] at hok
      split at hok
      · cases hok; rw [if_pos rfl, if_pos hts]; exact ⟨_, rfl, ho⟩
      · cases hok
    · rw [if_neg e] at hok
      obtain ⟨o1, h1, h2⟩ := H.obj _ _ _ hk hok
      by_cases ed : ok = dead
      · subst ed
        by_cases es : s = t
        · rw [if_pos es, if_pos (es ▸ hts)]; exact ⟨_, rfl, .gone _⟩
        · rw [if_neg es]; exact ⟨_, h1, .gone _⟩
      · have : s ≠ t := fun es => e (H.inj _ _ t (es ▸ hr) hk hd (fun z => ed (by rw [hok] at z; exact Option.some.inj z)))
        rw [if_neg this]; exact ⟨_, h1, h2⟩
  · intro k t n z c e fz hk hok
    simp only [Array.getElem?_setIfInBounds] at hok ⊢
    by_cases er : r = k
    · subst er
      rw [if_pos rfl] at hok
      split at hok
      · cases hok; exact hnc.elim
      · cases hok
    · rw [if_neg er] at hok
      obtain ⟨h1, c', fz', h2, h3⟩ := H.room k t n z c e fz hk hok
      have : s ≠ t := fun es => hwc c' e fz' (es ▸ h2)
      rw [if_neg this]; exact ⟨h1, c', fz', h2, h3⟩
theorem HR.kill (H : HR P N u h w) (r : Nat) : HR P N u { h with heap := h.heap.setIfInBounds r dead } w := by
  have hd2 : ∀ k, (h.heap.setIfInBounds r dead)[k]? ≠ some dead → h.heap[k]? ≠ some dead ∧ (h.heap.setIfInBounds r dead)[k]? = h.heap[k]? := fun k hk => by
    rw [Array.getElem?_setIfInBounds] at hk ⊢
    by_cases e : r = k
    · subst e
      rw [if_pos rfl] at hk ⊢
      split at hk
      · exact (hk rfl).elim
      · rename_i hn; rw [if_neg hn, Array.getElem?_eq_none (by omega)]; simp
    · rw [if_neg e] at hk ⊢; exact ⟨hk, rfl⟩
  have hfull : ∀ (k : Nat) (o1 : Obj), (h.heap.setIfInBounds r dead)[k]? = some o1 → o1 ≠ dead → ∃ s, RR u k s := fun k o1 ho1 hod => by
    have := (hd2 k (fun h => hod (by rw [ho1] at h; exact Option.some.inj h))).2
    rw [this] at ho1
    exact H.full k o1 ho1 hod
  refine ⟨H.base, by simpa using H.size, H.own, hfull, fun k k' t hk hk' x y => H.inj k k' t hk hk' (hd2 _ x).1 (hd2 _ y).1, fun k t ok hk hok => ?_, fun k t n z c e fz hk hok => ?_⟩
  · by_cases ed : (h.heap.setIfInBounds r dead)[k]? = some dead
    · simp only at hok
      rw [ed] at hok; cases hok
      have := (H.own _ _ hk).2
      exact ⟨_, Array.getElem?_eq_getElem this, .gone _⟩
    · simp only at hok
      rw [(hd2 k ed).2] at hok
      exact H.obj _ _ _ hk hok
  · by_cases ed : (h.heap.setIfInBounds r dead)[k]? = some dead
    · simp only at hok
      rw [ed] at hok; cases hok
    · simp only at hok
      rw [(hd2 k ed).2] at hok
      exact H.room _ _ _ _ _ _ _ hk hok
end
/-- how the world goes on: the marked blocks stay -/
structure Keeps (B : Nat → Prop) (w w' : World) : Prop where
  os : w'.os = w.os
  tape : w'.tape = w.tape
  output : w'.output = w.output
  size : w.heap.size ≤ w'.heap.size
  block : ∀ k, B k → w'.heap[k]? = w.heap[k]?
theorem Keeps.refl (B : Nat → Prop) (w : World) : Keeps B w w := ⟨rfl, rfl, rfl, Nat.le_refl _, fun _ _ => rfl⟩
theorem Keeps.trans {B : Nat → Prop} {a b c : World} (h : Keeps B a b) (k : Keeps B b c) : Keeps B a c :=
  ⟨k.os.trans h.os, k.tape.trans h.tape, k.output.trans h.output, Nat.le_trans h.size k.size, fun i hi => (k.block i hi).trans (h.block i hi)⟩
theorem Keeps.alloc {B : Nat → Prop} {a w : World} (h : Keeps B a w) (hB : ∀ k, B k → k < w.heap.size) (o : Obj) : Keeps B a (w.alloc o) :=
  h.trans ⟨rfl, rfl, rfl, by rw [size_alloc]; omega, fun k hk => by have := hB k hk; rw [heap_alloc_at, if_neg (by omega)]⟩
theorem Keeps.setCell {B : Nat → Prop} {a w : World} (h : Keeps B a w) {p : Addr} (hp : ¬ B p.block) (u : Value) : Keeps B a (w.setCell p u) :=
  h.trans ⟨rfl, rfl, rfl, by simp [World.setCell], fun k hk => (heap_setCell_at w p u k).trans (if_neg fun e => hp (by rw [e]; exact hk))⟩
theorem Keeps.grown {B : Nat → Prop} {a w w' : World} {row : Option Nat} (h : Keeps B a w) (hg : w.grownBy w' row) (hB : ∀ k, B k → k < w.heap.size) (hr : ∀ k, row = some k → ¬ B k) : Keeps B a w' :=
  h.trans ⟨hg.os, hg.tape, hg.output, hg.size, fun k hk => hg.block k (by exact hB k hk) (fun e => hr k e.symm hk)⟩
section
variable {P : Program} {N : Nat → Prop} {u : Ren} {h w : World}
theorem HR.mono (H : HR P N u h w) {M : Nat → Prop} (hm : ∀ b, M b → N b) : HR P M u h w :=
  ⟨fun b hb => H.base b (hm b hb), H.size, fun r s hr => ⟨fun hs => (H.own r s hr).1 (hm s hs), (H.own r s hr).2⟩, H.full, H.inj, H.obj, H.room⟩
/-- a canonical block that stands for none yet -/
theorem HR.reserve (H : HR P N u h w) : HR P N (u ++ [none]) (h.alloc dead) w := by
  have hent : ∀ r x, ent (u ++ [none]) r = some x → ent u r = some x ∧ r < h.heap.size := fun r x hr => by
    rw [ent_some, List.getElem?_append] at hr
    split at hr
    · exact ⟨ent_some.2 hr, by rw [H.size]; assumption⟩
    · rename_i hlt
      rcases Nat.eq_zero_or_pos (r - u.length) with e | e
      · rw [e] at hr; simp at hr
      · rw [List.getElem?_eq_none (by simp; omega)] at hr; cases hr
  have hRR : ∀ r s, RR (u ++ [none]) r s → RR u r s ∧ r < h.heap.size := fun r s ⟨n, z, hr⟩ => ⟨⟨n, z, (hent _ _ hr).1⟩, (hent _ _ hr).2⟩
  have old : ∀ r, r < h.heap.size → (h.alloc dead).heap[r]? = h.heap[r]? := fun r hr => by rw [heap_alloc_at, if_neg (by omega)]
  refine ⟨H.base, by rw [size_alloc, H.size]; simp, fun r s hr => H.own r s (hRR r s hr).1, fun r o ho hod => ?_, fun r r' s hr hr' x y => ?_, fun r s o hr ho => ?_, fun r s n z c e fz hr ho => ?_⟩
  · rw [heap_alloc_at] at ho
    split at ho
    · cases ho; exact (hod rfl).elim
    · obtain ⟨s, hs⟩ := H.full r o ho hod
      exact ⟨s, hs.ext (Ext.snoc _ _)⟩
  · obtain ⟨h1, l1⟩ := hRR r s hr
    obtain ⟨h2, l2⟩ := hRR r' s hr'
    rw [old r l1] at x; rw [old r' l2] at y
    exact H.inj r r' s h1 h2 x y
  · obtain ⟨h1, l1⟩ := hRR r s hr
    rw [old r l1] at ho
    obtain ⟨o', k1, k2⟩ := H.obj r s o h1 ho
    exact ⟨o', k1, k2.ext (Ext.snoc _ _)⟩
  · obtain ⟨h1, l1⟩ := hent r _ hr
    rw [old r l1] at ho
    exact H.room r s n z c e fz h1 ho
/-- the block that stands for it is there -/
theorem HR.fill (H : HR P N u h w) {b s n z : Nat} {O o' : Obj} (hb : b < h.heap.size) (hd : h.heap[b]? = some dead) (hu : ent u b = none) (hs : N s) (ho : w.heap[s]? = some o') (hO : OR [] O o') (hO2 : O ≠ dead)
    (hroom : ∀ (c : Array Value) (e : TypeId) (fz : Nat × Nat), O = .cells c e fz → z = P.cellsOf e ∧ ∃ (c' : Array Value) (fz' : Nat × Nat), o' = .cells c' e fz' ∧ n ≤ c'.size) :
    HR P (fun x => N x ∧ x ≠ s) (u.set b (some (s, n, z))) { h with heap := h.heap.setIfInBounds b O } w := by
  have hbu : b < u.length := by rw [← H.size]; exact hb
  have hent : ∀ r, ent (u.set b (some (s, n, z))) r = if b = r then some (s, n, z) else ent u r := fun r => by
    unfold ent
    rw [List.getElem?_set]
    by_cases e : b = r
    · subst e; rw [if_pos rfl, if_pos rfl, if_pos hbu]; rfl
    · rw [if_neg e, if_neg e]
  have hsub : Sub u (u.set b (some (s, n, z))) := fun r x hr => by
    rw [hent]; split
    · rename_i e; subst e; rw [hu] at hr; cases hr
    · exact hr
  have hRR : ∀ r t, RR (u.set b (some (s, n, z))) r t → (r = b ∧ t = s) ∨ (b ≠ r ∧ RR u r t) := fun r t ⟨m, y, hr⟩ => by
    rw [hent] at hr
    split at hr
    · rename_i e; cases hr; exact .inl ⟨e.symm, rfl⟩
    · rename_i e; exact .inr ⟨e, m, y, hr⟩
  have hget : ∀ r, (h.heap.setIfInBounds b O)[r]? = if b = r then some O else h.heap[r]? := fun r => by
    rw [Array.getElem?_setIfInBounds]
    by_cases e : b = r
    · subst e; rw [if_pos rfl, if_pos rfl, if_pos hb]
    · rw [if_neg e, if_neg e]
  have hns : ∀ r, ¬ RR u r s := fun r hr => (H.own r s hr).1 hs
  refine ⟨fun x hx => H.base x hx.1, by simpa using H.size, fun r t hr => ?_, fun r o ho1 hod => ?_, fun r r' t hr hr' x y => ?_, fun r t o hr ho1 => ?_, fun r t m y c e fz hr ho1 => ?_⟩
  · rcases hRR r t hr with ⟨_, rfl⟩ | ⟨_, h1⟩
    · exact ⟨fun h => h.2 rfl, H.base _ hs⟩
    · exact ⟨fun h => (H.own r t h1).1 h.1, (H.own r t h1).2⟩
  · simp only [hget] at ho1
    split at ho1
    · rename_i e; subst e; exact ⟨s, n, z, by rw [hent, if_pos rfl]⟩
    · obtain ⟨t, ht⟩ := H.full r o ho1 hod
      exact ⟨t, ht.sub hsub⟩
  · simp only [hget] at x y
    rcases hRR r t hr with ⟨e1, e2⟩ | ⟨e1, h1⟩ <;> rcases hRR r' t hr' with ⟨e3, e4⟩ | ⟨e3, h2⟩
    · rw [e1, e3]
    · subst e2; exact (hns _ h2).elim
    · subst e4; exact (hns _ h1).elim
    · rw [if_neg e1] at x; rw [if_neg e3] at y; exact H.inj r r' t h1 h2 x y
  · simp only [hget] at ho1
    rcases hRR r t hr with ⟨e1, e2⟩ | ⟨e1, h1⟩
    · subst e2
      rw [if_pos e1.symm] at ho1; cases ho1
      exact ⟨o', ho, hO.sub fun r x hx => by simp [ent] at hx⟩
    · rw [if_neg e1] at ho1
      obtain ⟨o1, k1, k2⟩ := H.obj r t o h1 ho1
      exact ⟨o1, k1, k2.sub hsub⟩
  · simp only [hget] at ho1
    rw [hent] at hr
    split at hr
    · rename_i eb
      cases hr
      rw [if_pos eb] at ho1; cases ho1
      obtain ⟨k1, c', fz', k2, k3⟩ := hroom c e fz rfl
      exact ⟨k1, c', fz', by rw [ho, k2], k3⟩
    · rename_i eb
      rw [if_neg eb] at ho1
      exact H.room r t m y c e fz hr ho1
end
theorem Keeps.mono {B C : Nat → Prop} {a w : World} (h : Keeps B a w) (hc : ∀ k, C k → B k) : Keeps C a w := ⟨h.os, h.tape, h.output, h.size, fun k hk => h.block k (hc k hk)⟩
end Go.Proofs.Simul
/-
  A canonical run serves every run. Part C: operations run over both memories.
-/
namespace Go.Proofs.Simul
open Go Go.RowKit

/-- the canonical run of an operation: none wherever it would draw, or touch what is no plain memory of the call's own -/
def crun {α : Type} (P : Program) : Sem α → World → Option (Except Value α × World)
  | .pure a, h => some (.ok a, h)
  | .load _ a k, h => match h.cell? a with
    | some v => crun P (k v) h
    | none => none
  | .store _ _ (.agg _) _, _ | .store _ _ (.tuple _) _, _ => none
  | .store _ a v k, h => match h.cell? a with
    | some _ => crun P k (h.setCell a v)
    | none => none
  | .new o k, h => crun P (k h.heap.size) (h.alloc o)
  | .shape _ _, _ | .freeze _ _ _, _ | .frozen _ _, _ | .sys _ _, _ => none
  | .getObj r k, h => match h.heap[r]? with
    | some (.cells ..) | some (.pending ..) | none => none
    | some o => crun P (k o) h
  | .setObj r o k, h => match h.heap[r]? with
    | some (.cells ..) | some (.pending ..) | none => none
    | some _ => crun P k { h with heap := h.heap.setIfInBounds r o }
  | .choose q k, h => if q.forced then crun P (k 0) h else none
  | .program k, h => crun P (k P) h
  | .mark _ k, h => crun P k h
  | .halt (.panic v), h => some (.error v, h)
  | .halt _, _ => none

def Fits {α β : Type} (P : Program) (t : Sem β) (w w' : World) (u : Ren) (R : Ren → α → β → Prop) : Except Value α → Prop
  | .ok a => ∃ b, t.run P w = .ok b w' ∧ R u a b
  | .error v => ∃ v', t.run P w = .halt (.panic v') w' ∧ VR u v v'

def SimAt {α β : Type} (P : Program) (N : Nat → Prop) (u : Ren) (s : Sem α) (t : Sem β) (R : Ren → α → β → Prop) : Prop :=
  ∀ h w, HR P N u h w → ∀ r h', crun P s h = some (r, h') → ∃ u' w', Ext u u' ∧ HR P N u' h' w' ∧ Keeps N w w' ∧ Fits P t w w' u' R r

theorem crun_bind {α β : Type} (P : Program) (s : Sem α) (f : α → Sem β) : ∀ h, crun P (s >>= f) h = match crun P s h with
    | some (.ok a, h') => crun P (f a) h'
    | some (.error v, h') => some (.error v, h')
    | none => none := by
  show ∀ h, crun P (s.bind f) h = _
  induction s with
  | pure a => intro h; rfl
  | load m a k ih => intro h; simp only [Sem.bind, crun]; split <;> simp_all
  | store m a v k ih =>
    intro h
    cases v <;> simp only [Sem.bind, crun] <;> (try (split <;> simp_all))
  | new o k ih => intro h; simp only [Sem.bind, crun]; exact ih _ _
  | shape r k ih => intro h; rfl
  | freeze a n k ih => intro h; rfl
  | frozen a k ih => intro h; rfl
  | getObj r k ih => intro h; simp only [Sem.bind, crun]; split <;> simp_all
  | setObj r o k ih => intro h; simp only [Sem.bind, crun]; split <;> simp_all
  | choose q k ih => intro h; simp only [Sem.bind, crun]; split <;> simp_all
  | sys c k ih => intro h; rfl
  | program k ih => intro h; simp only [Sem.bind, crun]; exact ih _ _
  | mark m k ih => intro h; simp only [Sem.bind, crun]; exact ih _
  | halt x => intro h; cases x <;> rfl

section
variable {P : Program} {N : Nat → Prop} {u : Ren}
theorem sim_ret {α β : Type} {R : Ren → α → β → Prop} {a : α} {b : β} (hr : R u a b) : SimAt P N u (pure a) (pure b) R := fun h w H r h' hc => by
  have : r = .ok a ∧ h' = h := by simpa [crun, pure] using hc.symm
  obtain ⟨rfl, rfl⟩ := this
  exact ⟨u, w, Ext.refl u, H, Keeps.refl _ _, b, rfl, hr⟩
theorem sim_bind {α β γ δ : Type} {S : Ren → α → β → Prop} {R : Ren → γ → δ → Prop} {s : Sem α} {t : Sem β} {f : α → Sem γ} {g : β → Sem δ}
    (hs : SimAt P N u s t S) (hf : ∀ u', Ext u u' → ∀ a b, S u' a b → SimAt P N u' (f a) (g b) R) : SimAt P N u (s >>= f) (t >>= g) R := fun h w H r h' hc => by
  rw [crun_bind] at hc
  have hrun : (t >>= g).run P w = (t.run P w).andThen fun b w => (g b).run P w := Sem.run_bind' P t g w
  cases hcs : crun P s h with
  | none => rw [hcs] at hc; cases hc
  | some x =>
    obtain ⟨r1, h1⟩ := x
    rw [hcs] at hc
    obtain ⟨u1, w1, e1, H1, b1, F1⟩ := hs h w H r1 h1 hcs
    cases r1 with
    | ok a =>
      obtain ⟨b, hb, hR⟩ := F1
      obtain ⟨u2, w2, e2, H2, b2, F2⟩ := hf u1 e1 a b hR h1 w1 H1 r h' hc
      refine ⟨u2, w2, e1.trans e2, H2, b1.trans b2, ?_⟩
      cases r with
      | ok c => obtain ⟨d, hd, hR2⟩ := F2; exact ⟨d, by rw [hrun, hb]; exact hd, hR2⟩
      | error v => obtain ⟨d, hd, hR2⟩ := F2; exact ⟨d, by rw [hrun, hb]; exact hd, hR2⟩
    | error v =>
      simp only [Option.some.injEq, Prod.mk.injEq] at hc
      obtain ⟨rfl, rfl⟩ := hc
      obtain ⟨v', hv', hV⟩ := F1
      exact ⟨u1, w1, e1, H1, b1, v', by rw [hrun, hv']; rfl, hV⟩
theorem sim_mono {α β : Type} {R S : Ren → α → β → Prop} {s : Sem α} {t : Sem β} (h : SimAt P N u s t R) (hRS : ∀ u' a b, Ext u u' → R u' a b → S u' a b) : SimAt P N u s t S := fun c w H r h' hc => by
  obtain ⟨u1, w1, e1, H1, b1, F1⟩ := h c w H r h' hc
  refine ⟨u1, w1, e1, H1, b1, ?_⟩
  cases r with
  | ok a => obtain ⟨b, hb, hR⟩ := F1; exact ⟨b, hb, hRS _ _ _ e1 hR⟩
  | error v => exact F1
theorem sim_none {α β : Type} {R : Ren → α → β → Prop} {s : Sem α} {t : Sem β} (h : ∀ c, crun P s c = none) : SimAt P N u s t R := fun c w H r h' hc => by rw [h c] at hc; cases hc
theorem sim_stuck {α β : Type} {R : Ren → α → β → Prop} {x : String} {t : Sem β} : SimAt (α := α) P N u (stuck x) t R := sim_none fun _ => rfl
theorem sim_unsupported {α β : Type} {R : Ren → α → β → Prop} {x : Unsupported} {t : Sem β} : SimAt (α := α) P N u (unsupported x) t R := sim_none fun _ => rfl
theorem sim_panic {α β : Type} {R : Ren → α → β → Prop} {v v' : Value} (hv : VR u v v') : SimAt (α := α) (β := β) P N u (goPanic v) (goPanic v') R := fun h w H r h' hc => by
  have : r = .error v ∧ h' = h := by simpa [crun, goPanic] using hc.symm
  obtain ⟨rfl, rfl⟩ := this
  exact ⟨u, w, Ext.refl u, H, Keeps.refl _ _, v', rfl, hv⟩
theorem sim_program : SimAt P N u program program (fun _ a b => a = P ∧ b = P) := fun h w H r h' hc => by
  have : r = .ok P ∧ h' = h := by simpa [crun, program] using hc.symm
  obtain ⟨rfl, rfl⟩ := this
  exact ⟨u, w, Ext.refl u, H, Keeps.refl _ _, P, rfl, rfl, rfl⟩
theorem sim_typeInfo (t : TypeId) : SimAt P N u (typeInfo t) (typeInfo t) (fun _ a b => a = b ∧ P.info? t = some a) := by
  unfold typeInfo
  refine sim_bind sim_program ?_
  rintro u' e _ _ ⟨rfl, rfl⟩
  split
  · rename_i i hi; exact sim_ret ⟨rfl, hi⟩
  · exact sim_stuck
theorem sim_underlying (t : TypeId) : SimAt P N u (underlying t) (underlying t) (fun _ a b => a = b ∧ P.underlying t = some a) := by
  unfold underlying
  refine sim_bind sim_program ?_
  rintro u' e _ _ ⟨rfl, rfl⟩
  split
  · rename_i i hi; exact sim_ret ⟨rfl, hi⟩
  · exact sim_stuck
theorem sim_sizeOf (t : TypeId) : SimAt P N u (sizeOf t) (sizeOf t) (fun _ a b => a = b) := by
  unfold sizeOf
  refine sim_bind (sim_typeInfo t) ?_
  rintro u' e a _ ⟨rfl, _⟩
  exact sim_ret rfl
theorem sim_isAgg (t : TypeId) : SimAt P N u (isAgg t) (isAgg t) (fun _ a b => a = b) := by
  unfold isAgg
  refine sim_bind (sim_underlying t) ?_
  rintro u' e a _ ⟨rfl, _⟩
  split <;> exact sim_ret rfl
/-- a type's zero value holds no address -/
def zok (P : Program) (t : TypeId) : Bool :=
  match P.info? t with
  | some i => (match i.zero with | some v => closed 9 v | none => true)
  | none => true
def zokE (P : Program) (t : TypeId) : Bool :=
  match P.underlying t with
  | some (.slice e) => zok P e
  | _ => true
/-- an array that is sliced is not too long -/
def arrOK (P : Program) (t : TypeId) : Bool :=
  match P.underlying t with
  | some (.array n _) => decide (n < BIG)
  | some (.pointer a) => (match P.underlying a with | some (.array n _) => decide (n < BIG) | _ => true)
  | _ => true
def Fine (P : Program) : Prop := P = P
theorem sim_zeroValue {t : TypeId} (hz : zok P t = true) : SimAt P N u (zeroValue t) (zeroValue t) VR := by
  unfold zeroValue
  refine sim_bind (sim_typeInfo t) ?_
  rintro u' e a _ ⟨rfl, hi⟩
  unfold zok at hz
  rw [hi] at hz
  split
  · rename_i v hv; dsimp only at hz; rw [hv] at hz; exact sim_ret (VR.of_closed hz)
  · exact sim_unsupported
theorem sim_load {a b : Addr} {m : Mode} (ha : AR u a b) : SimAt P N u (load a m) (load b m) VR := fun h w H r h' hc => by
  simp only [load, crun] at hc
  split at hc
  · rename_i v hv
    have : r = .ok v ∧ h' = h := by simpa [crun] using hc.symm
    obtain ⟨rfl, rfl⟩ := this
    obtain ⟨v', hv', hV, _⟩ := H.cell ha hv
    exact ⟨u, w, Ext.refl u, H, Keeps.refl _ _, v', by simp [load, Sem.run, hv'], hV⟩
  · cases hc
theorem sim_store {a b : Addr} {m : Mode} {v v' : Value} (ha : AR u a b) (hv : VR u v v') : SimAt P N u (store a v m) (store b v' m) (fun _ _ _ => True) := fun h w H r h' hc => by
  have key : ∀ v0, h.cell? a = some v0 → ((∀ cs, v ≠ .agg cs) ∧ (∀ cs, v ≠ .tuple cs)) → crun P (store a v m) h = some (.ok (), h.setCell a v) ∧ (store b v' m).run P w = .ok () (w.setCell b v') := fun v0 hc0 hne => by
    obtain ⟨x, hx, _, hf⟩ := H.cell ha hc0
    constructor
    · unfold store; cases v <;> simp_all [crun]
    · unfold store; cases hv <;> simp_all [Sem.run]
  have hex : ∃ v0, h.cell? a = some v0 ∧ ((∀ cs, v ≠ .agg cs) ∧ (∀ cs, v ≠ .tuple cs)) := by
    unfold store at hc
    cases hc0 : h.cell? a with
    | none => cases v <;> simp_all [crun]
    | some v0 => refine ⟨v0, rfl, ?_⟩; cases v <;> simp_all [crun]
  obtain ⟨v0, h0, hne⟩ := hex
  obtain ⟨k1, k2⟩ := key v0 h0 hne
  rw [k1] at hc
  simp only [Option.some.injEq, Prod.mk.injEq] at hc
  obtain ⟨rfl, rfl⟩ := hc
  exact ⟨u, _, Ext.refl u, H.setCell ha h0 hv, (Keeps.refl _ _).setCell (H.own _ _ ha.1).1 _, (), k2, trivial⟩
theorem sim_new {o o' : Obj} (n z : Nat) (ho : ∀ r, OR (u ++ [some (r, n, z)]) o o')
    (hroom : ∀ (c : Array Value) (e : TypeId) (fz : Nat × Nat), o = .cells c e fz → z = P.cellsOf e ∧ ∃ (c' : Array Value) (fz' : Nat × Nat), o' = .cells c' e fz' ∧ n ≤ c'.size) :
    SimAt P N u (newObj o) (newObj o') RR := fun h w H r h' hc => by
  have : r = .ok h.heap.size ∧ h' = h.alloc o := by simpa [crun, newObj] using hc.symm
  obtain ⟨rfl, rfl⟩ := this
  refine ⟨u ++ [some (w.heap.size, n, z)], w.alloc o', Ext.snoc _ _, H.alloc (ho _) hroom, (Keeps.refl _ _).alloc H.base _, w.heap.size, rfl, n, z, ?_⟩
  rw [ent_some, H.size]; simp
theorem sim_getObj {r s : Nat} (hr : RR u r s) : SimAt P N u (getObj r) (getObj s) (fun u a b => OR u a b ∧ a ≠ dead) := fun h w H x h' hc => by
  simp only [getObj, crun] at hc
  split at hc
  · cases hc
  · cases hc
  · cases hc
  · rename_i o h1 h2 ho
    have : x = .ok o ∧ h' = h := by simpa [crun] using hc.symm
    obtain ⟨rfl, rfl⟩ := this
    obtain ⟨o', ho', hor⟩ := H.obj _ _ _ hr ho
    refine ⟨u, w, Ext.refl u, H, Keeps.refl _ _, o', ?_, hor, fun e => h2 #[] 0 (by rw [e]; rfl)⟩
    simp only [getObj, Sem.run, ho']
    cases hor <;> simp_all [dead]
theorem sim_setObj {r s : Nat} {o o' : Obj} (hr : RR u r s) (ho : OR u o o') (hnc : Obj.noCells o) : SimAt P N u (setObj r o) (setObj s o') (fun _ _ _ => True) := fun h w H x h' hc => by
  simp only [setObj, crun] at hc
  split at hc
  · cases hc
  · cases hc
  · cases hc
  · rename_i o1 h1 h2 ho1
    have : x = .ok () ∧ h' = { h with heap := h.heap.setIfInBounds r o } := by simpa [crun] using hc.symm
    obtain ⟨rfl, rfl⟩ := this
    obtain ⟨o2, ho2, hor⟩ := H.obj _ _ _ hr ho1
    refine ⟨u, { w with heap := w.heap.setIfInBounds s o' }, Ext.refl u, H.put hr (fun e => h2 #[] 0 (by rw [ho1] at e; cases e; rfl)) ho hnc (fun c e fz hx => by rw [ho2] at hx; cases hx; cases hor <;> simp_all [dead]), ?_, (), ?_, trivial⟩
    · refine ⟨rfl, rfl, rfl, by simp, fun k hk => ?_⟩
      have := (H.own _ _ hr).1
      simp only [Array.getElem?_setIfInBounds]; rw [if_neg (fun e => this (by rw [e]; exact hk))]
    · simp only [setObj, Sem.run, ho2]
      cases hor <;> simp_all [dead]
theorem sim_mark (m m' : Mark) : SimAt P N u (mark m) (mark m') (fun _ _ _ => True) := fun h w H x h' hc => by
  have : x = .ok () ∧ h' = h := by simpa [crun, mark] using hc.symm
  obtain ⟨rfl, rfl⟩ := this
  exact ⟨u, w, Ext.refl u, H, Keeps.refl _ _, (), rfl, trivial⟩
theorem sim_askRoom (n m : Nat) : SimAt P N u (askRoom n) (askRoom m) (fun _ _ _ => True) := fun h w H x h' hc => by
  have : x = .ok () ∧ h' = h := by
    unfold askRoom at hc; split at hc <;> simpa [crun, mark, pure] using hc.symm
  obtain ⟨rfl, rfl⟩ := this
  refine ⟨u, w, Ext.refl u, H, Keeps.refl _ _, (), ?_, trivial⟩
  unfold askRoom; split <;> rfl
end
end Go.Proofs.Simul
/-
  A canonical run serves every run. Part D: the instructions.
-/
namespace Go.Proofs.Simul
open Go Go.RowKit

section
variable {P : Program} {N : Nat → Prop} {u : Ren}
theorem OR.row {cs ds : Array Value} {e : TypeId} (h : VRs u cs ds) : OR u (.cells cs e) (.cells ds e) := .cells (Nat.le_of_eq h.1) h.2 (.inl (Nat.le_refl _))
theorem sim_newRow {cs ds : Array Value} {e : TypeId} (h : VRs u cs ds) : SimAt P N u (newRow e cs) (newRow e ds) AR := by
  unfold newRow
  refine sim_bind (sim_new ds.size (P.cellsOf e) (fun r => OR.row (h.ext (Ext.snoc _ _))) (fun c e' fz hc => by cases hc; exact ⟨rfl, _, _, rfl, Nat.le_refl _⟩)) ?_
  intro u' he r s hr
  exact sim_ret ⟨hr, rfl, rfl⟩
theorem sim_newVar {v v' : Value} {e : TypeId} (h : VR u v v') : SimAt P N u (newVar e v) (newVar e v') AR := sim_newRow (VRs.cells h)
theorem sim_alloc {e : TypeId} (hz : zok P e = true) (b : Bool) : SimAt P N u (Instr.alloc e b (.tuple #[])) (Instr.alloc e b (.tuple #[])) VR := by
  unfold Instr.alloc
  refine sim_bind (sim_zeroValue hz) ?_
  intro u' he a b' hab
  cases b <;>
  · refine sim_bind (sim_newVar hab) ?_
    intro u2 e2 a b hab
    exact sim_ret (.ptr hab)
theorem sim_box {v v' : Value} {e : TypeId} (h : VR u v v') : SimAt P N u (Instr.box e v) (Instr.box e v') VR := by
  unfold Instr.box
  refine sim_bind (sim_newVar h) ?_
  intro u2 e2 a b hab
  exact sim_ret (.ptr hab)
theorem sim_loadCellsFrom {a b : Addr} (ha : AR u a b) : ∀ (n i : Nat) {u' : Ren} {cs ds : Array Value}, Ext u u' → VRs u' cs ds → SimAt P N u' (loadCellsFrom a i n cs) (loadCellsFrom b i n ds) VRs
  | 0, i, u', cs, ds, he, h => sim_ret h
  | n + 1, i, u', cs, ds, he, h => by
    unfold loadCellsFrom
    refine sim_bind (sim_load ((ha.ext he).add i)) ?_
    intro u2 e2 v v' hv
    exact sim_loadCellsFrom ha n (i + 1) (he.trans e2) ((h.ext e2).push hv)
theorem sim_loadCells {a b : Addr} (ha : AR u a b) (n : Nat) : SimAt P N u (loadCells a n) (loadCells b n) VRs := sim_loadCellsFrom ha n 0 (Ext.refl u) (VRs.nil u)
theorem sim_loadVar {a b : Addr} (ha : AR u a b) (t : TypeId) : SimAt P N u (loadVar t a) (loadVar t b) VR := by
  unfold loadVar
  refine sim_bind (sim_isAgg t) ?_
  intro u1 e1 x y hxy
  subst hxy
  cases x
  · exact sim_load (ha.ext e1)
  · refine sim_bind (sim_sizeOf t) ?_
    rintro u2 e2 n _ rfl
    refine sim_bind (sim_loadCells ((ha.ext e1).ext e2) n) ?_
    intro u3 e3 cs ds hc
    exact sim_ret (.agg hc.1 hc.2)
/-- lists of values, place for place -/
inductive VL (u : Ren) : List Value → List Value → Prop
  | nil : VL u [] []
  | cons {a b : Value} {l m : List Value} (h : VR u a b) (hs : VL u l m) : VL u (a :: l) (b :: m)
theorem VL.ext {u u' : Ren} {l m : List Value} (h : VL u l m) (he : Ext u u') : VL u' l m := by
  induction h with
  | nil => exact .nil
  | cons h hs ih => exact .cons (h.ext he) ih
theorem VL.of_get : ∀ {l m : List Value}, l.length = m.length → (∀ (i : Nat) (a b : Value), l[i]? = some a → m[i]? = some b → VR u a b) → VL u l m
  | [], [], _, _ => .nil
  | a :: l, b :: m, hl, h => .cons (h 0 a b rfl rfl) (VL.of_get (by simpa using hl) fun i x y hx hy => h (i + 1) x y (by simpa using hx) (by simpa using hy))
  | [], _ :: _, hl, _ => by simp at hl
  | _ :: _, [], hl, _ => by simp at hl
theorem VRs.list {cs ds : Array Value} (h : VRs u cs ds) : VL u cs.toList ds.toList := VL.of_get (by simpa using h.1) fun i a b ha hb => h.2 i a b (by simpa using ha) (by simpa using hb)
theorem VL.length {l m : List Value} (h : VL u l m) : l.length = m.length := by
  induction h with
  | nil => rfl
  | cons h hs ih => simp [ih]
theorem VL.get {l m : List Value} (h : VL u l m) : ∀ (i : Nat) (a b : Value), l[i]? = some a → m[i]? = some b → VR u a b := by
  induction h with
  | nil => intro i a b h; simp at h
  | cons h hs ih =>
    intro i a b ha hb
    cases i with
    | zero => simp at ha hb; subst ha; subst hb; exact h
    | succ i => exact ih i a b (by simpa using ha) (by simpa using hb)
theorem VL.array {l m : List Value} (h : VL u l m) : VRs u l.toArray m.toArray := ⟨by simpa using h.length, fun i a b ha hb => h.get i a b (by simpa using ha) (by simpa using hb)⟩
theorem sim_storeCells {a b : Addr} (ha : AR u a b) : ∀ {l m : List Value} (i : Nat) {u' : Ren}, Ext u u' → VL u' l m → SimAt P N u' (storeCells a l i) (storeCells b m i) (fun _ _ _ => True)
  | [], [], i, u', he, h => sim_ret trivial
  | v :: l, v' :: m, i, u', he, h => by
    cases h with
    | cons h hs =>
      unfold storeCells
      refine sim_bind (sim_store ((ha.ext he).add i) h) ?_
      intro u2 e2 _ _ _
      exact sim_storeCells ha (i + 1) (he.trans e2) (hs.ext e2)
  | [], _ :: _, i, u', he, h => by cases h
  | _ :: _, [], i, u', he, h => by cases h
theorem sim_storeVar {a b : Addr} (ha : AR u a b) (t : TypeId) {v v' : Value} (hv : VR u v v') : SimAt P N u (storeVar t a v) (storeVar t b v') (fun _ _ _ => True) := by
  unfold storeVar
  refine sim_bind (sim_sizeOf t) ?_
  rintro u2 e2 n _ rfl
  have hc := VRs.cells hv
  rw [← hc.1]
  split
  · exact sim_none fun c => by rw [crun_bind]; rfl
  · refine sim_storeCells (ha.ext e2) 0 (Ext.refl _) ((VRs.list hc).ext e2)
theorem sim_sureAddr {v v' : Value} (hv : VR u v v') : SimAt P N u (Instr.sureAddr v) (Instr.sureAddr v') AR := by
  cases hv with
  | ptr h => exact sim_ret h
  | _ => exact sim_stuck
theorem sim_loadAt {v v' : Value} (hv : VR u v v') (t : TypeId) : SimAt P N u (Instr.loadAt t v) (Instr.loadAt t v') VR := by
  unfold Instr.loadAt
  exact sim_bind (sim_sureAddr hv) fun u' e a b h => sim_loadVar h t
theorem sim_storeAt {v v' x x' : Value} (hv : VR u v v') (hx : VR u x x') (t : TypeId) : SimAt P N u (Instr.storeAt t v x) (Instr.storeAt t v' x') (fun _ _ _ => True) := by
  unfold Instr.storeAt
  exact sim_bind (sim_sureAddr hv) fun u' e a b h => sim_storeVar h t (hx.ext e)
theorem crun_byteOf (a : Addr) (ha : a.spot = none) (c : World) : crun P (byteOf a) c = none := by
  unfold byteOf
  rw [ha]
  show crun P (program >>= _) c = none
  rw [crun_bind]
  show crun P (noView a >>= _) c = none
  rw [crun_bind]
  rfl
theorem crun_partAt (a : Addr) (n m : Nat) (c : World) : crun P (partAt a n m) c = none := by
  unfold partAt
  rw [crun_bind]
  split
  · show crun P (byteOf _ >>= _) _ = none
    rw [crun_bind, crun_byteOf _ rfl]
  · rename_i v h' hh
    exfalso
    unfold byteOf at hh
    cases hs : a.spot with
    | some s => rw [hs] at hh; simp [crun, pure] at hh
    | none =>
      have := crun_byteOf (P := P) a hs c
      unfold byteOf at this
      rw [this] at hh; cases hh
  · rfl
theorem sim_fieldPlace {a b : Addr} (ha : AR u a b) (f : Field) : SimAt P N u (fieldPlace a f) (fieldPlace b f) AR := by
  unfold fieldPlace
  refine sim_bind (sim_sizeOf f.type) ?_
  rintro u2 e2 n _ rfl
  split
  · exact sim_none fun c => crun_partAt _ _ _ c
  · exact sim_ret ((ha.ext e2).add _)
theorem sim_fieldAt {v v' : Value} (hv : VR u v v') (s : TypeId) (i : Nat) : SimAt P N u (Instr.fieldAt s v i) (Instr.fieldAt s v' i) VR := by
  unfold Instr.fieldAt
  refine sim_bind (sim_underlying s) ?_
  rintro u2 e2 d _ ⟨rfl, _⟩
  split
  · split
    · refine sim_bind (sim_sureAddr (hv.ext e2)) ?_
      intro u3 e3 a b hab
      refine sim_bind (sim_fieldPlace hab _) ?_
      intro u4 e4 a b hab
      exact sim_ret (.ptr hab)
    · exact sim_stuck
  · exact sim_stuck
theorem sim_asIntOf {v v' : Value} (hv : VR u v v') : SimAt P N u (asIntOf v) (asIntOf v') (fun _ a b => a = b) := by
  cases hv with
  | int k n => exact sim_ret rfl
  | ptr h => exact sim_unsupported
  | _ => exact sim_stuck
theorem sim_asInt {v v' : Value} (hv : VR u v v') : SimAt P N u (asInt v) (asInt v') (fun _ a b => a = b) := by
  unfold asInt
  refine sim_bind (sim_asIntOf hv) ?_
  rintro u2 e2 d _ rfl
  exact sim_ret rfl
theorem sim_asBool {v v' : Value} (hv : VR u v v') : SimAt P N u (asBool v) (asBool v') (fun _ a b => a = b) := by
  cases hv with
  | bool b => exact sim_ret rfl
  | _ => exact sim_stuck
theorem sim_asAgg {v v' : Value} (hv : VR u v v') : SimAt P N u (asAgg v) (asAgg v') VRs := by
  cases hv with
  | agg h1 h2 => exact sim_ret ⟨h1, h2⟩
  | _ => exact sim_stuck
theorem VR.ints (t : TypeId) (x y : Int) (s : Bool) (c : Int) : VR u (.iface t (.agg #[.int .i64 x, .int .i64 y, .bool s, .int .u8 c])) (.iface t (.agg #[.int .i64 x, .int .i64 y, .bool s, .int .u8 c])) := VR.of_closed (d := 3) rfl
theorem sim_bounds {α β : Type} {R : Ren → α → β → Prop} (x y : Int) (s : Bool) (c : BoundsCode) : SimAt P N u (runtimePanic (α := α) (.bounds x y s c)) (runtimePanic (α := β) (.bounds x y s c)) R := by
  unfold runtimePanic
  refine sim_bind sim_program ?_
  rintro u' e _ _ ⟨rfl, rfl⟩
  exact sim_panic (VR.ints _ _ _ _ _)
theorem sim_nilDeref {α β : Type} {R : Ren → α → β → Prop} : SimAt P N u (runtimePanic (α := α) .nilDeref) (runtimePanic (α := β) .nilDeref) R := by
  unfold runtimePanic
  refine sim_bind sim_program ?_
  rintro u' e _ _ ⟨rfl, rfl⟩
  exact sim_panic (.iface _ (.string _))
theorem sim_plain {α β : Type} {R : Ren → α → β → Prop} (m : String) : SimAt P N u (runtimePanic (α := α) (.plain m)) (runtimePanic (α := β) (.plain m)) R := by
  unfold runtimePanic
  refine sim_bind sim_program ?_
  rintro u' e _ _ ⟨rfl, rfl⟩
  exact sim_panic (.iface _ (.string _))
theorem sim_error {α β : Type} {R : Ren → α → β → Prop} (m : String) : SimAt P N u (runtimePanic (α := α) (.error m)) (runtimePanic (α := β) (.error m)) R := by
  unfold runtimePanic
  refine sim_bind sim_program ?_
  rintro u' e _ _ ⟨rfl, rfl⟩
  exact sim_panic (.iface _ (.string _))
theorem sim_boundsPanic {α β : Type} {R : Ren → α → β → Prop} (k : IntKind) (x y : Int) (c : BoundsCode) : SimAt P N u (boundsPanic (α := α) k x y c) (boundsPanic (α := β) k x y c) R := by
  unfold boundsPanic
  split
  · exact sim_bind (S := fun _ _ _ => False) (sim_none fun c => rfl) fun u' e a b hf => hf.elim
  · exact sim_bounds _ _ _ _
theorem sim_indexAt {v v' x x' : Value} (hv : VR u v v') (hx : VR u x x') (t : TypeId) : SimAt P N u (Instr.indexAt t v x) (Instr.indexAt t v' x') VR := by
  unfold Instr.indexAt
  refine sim_bind (sim_asIntOf hx) ?_
  rintro u1 e1 ⟨k, i⟩ _ rfl
  have hv1 := hv.ext e1
  refine sim_bind (sim_underlying t) ?_
  rintro u2 e2 d _ ⟨rfl, _⟩
  have hv2 := hv1.ext e2
  extract_lets j1
  have hj : ∀ u', Ext u2 u' → ∀ (p q : Option Addr) (len : Nat) (elem : TypeId), ((p = none ∧ q = none) ∨ ∃ x y, p = some x ∧ q = some y ∧ AR u' x y) → SimAt P N u' (j1 (p, len, elem)) (j1 (q, len, elem)) VR := by
    intro u' e p q len elem hpq
    refine sim_bind (sim_underlying t) ?_
    rintro u3 e3 d _ ⟨rfl, _⟩
    rcases hpq with ⟨rfl, rfl⟩ | ⟨a, b, rfl, rfl, hab⟩
    · exact sim_boundsPanic _ _ _ _
    · simp only
      split
      · refine sim_bind (sim_sizeOf elem) ?_
        rintro u4 e4 n _ rfl
        exact sim_ret (.ptr (((hab.ext e3).ext e4).add _))
      · repeat' split
        all_goals first | exact sim_unsupported | exact sim_boundsPanic _ _ _ _
  have hst : ∀ (s : String) (t : Sem Value), SimAt P N u2 (stuck s >>= j1) t VR := fun s t => sim_none fun c => by rw [crun_bind]; rfl
  cases d with
  | array len elem =>
    refine sim_bind (sim_sureAddr hv2) ?_
    intro u3 e3 a b hab
    exact hj u3 e3 (some _) (some _) len elem (.inr ⟨_, _, rfl, rfl, hab⟩)
  | slice elem =>
    cases hv2 with
    | sliceNil n c => exact hj u2 (Ext.refl _) none none n elem (.inl ⟨rfl, rfl⟩)
    | slice n c h hc => exact hj u2 (Ext.refl _) (some _) (some _) n elem (.inr ⟨_, _, rfl, rfl, h⟩)
    | sliceG n c c' h hn hc hr => exact hj u2 (Ext.refl _) (some _) (some _) n elem (.inr ⟨_, _, rfl, rfl, h⟩)
    | _ => exact hst _ _
  | _ => exact hst _ _
end
end Go.Proofs.Simul
/-
  A canonical run serves every run. Part E: more instructions.
-/
namespace Go.Proofs.Simul
open Go Go.RowKit

section
variable {P : Program} {N : Nat → Prop} {u : Ren}
theorem sim_part {cs ds : Array Value} (h : VRs u cs ds) (t : TypeId) (off : Nat) : SimAt P N u (part t cs off) (part t ds off) VR := by
  unfold part
  refine sim_bind (sim_isAgg t) ?_
  rintro u1 e1 x _ rfl
  cases x
  · simp only [Bool.false_eq_true, if_false]
    cases hc : cs[off]? with
    | none => rw [h.get_none hc]; exact sim_stuck
    | some a => obtain ⟨b, hb, hr⟩ := h.get hc; rw [hb]; exact sim_ret (hr.ext e1)
  · refine sim_bind (sim_sizeOf t) ?_
    rintro u2 e2 n _ rfl
    have := ((h.ext e1).ext e2).extract off (off + n)
    exact sim_ret (.agg this.1 this.2)
theorem sim_field {v v' : Value} (hv : VR u v v') (s : TypeId) (i : Nat) : SimAt P N u (Instr.field s v i) (Instr.field s v' i) VR := by
  unfold Instr.field
  refine sim_bind (sim_underlying s) ?_
  rintro u2 e2 d _ ⟨rfl, _⟩
  split
  · split
    · refine sim_bind (sim_asAgg (hv.ext e2)) ?_
      intro u3 e3 a b hab
      exact sim_part hab _ _
    · exact sim_stuck
  · exact sim_stuck
theorem sim_extract {v v' : Value} (hv : VR u v v') (i : Nat) : SimAt P N u (Instr.extract v i) (Instr.extract v' i) VR := by
  cases hv with
  | @tuple cs ds h1 h2 =>
    unfold Instr.extract
    have h : VRs u cs ds := ⟨h1, h2⟩
    cases hc : cs[i]? with
    | none => simp only [hc, h.get_none hc]; exact sim_stuck
    | some a => obtain ⟨b, hb, hr⟩ := h.get hc; simp only [hc, hb]; exact sim_ret hr
  | _ => exact sim_stuck
theorem sim_index {v v' x x' : Value} (hv : VR u v v') (hx : VR u x x') (t : TypeId) : SimAt P N u (Instr.index t v x) (Instr.index t v' x') VR := by
  unfold Instr.index
  refine sim_bind (sim_asIntOf hx) ?_
  rintro u1 e1 ⟨k, i⟩ _ rfl
  refine sim_bind (sim_underlying t) ?_
  rintro u2 e2 d _ ⟨rfl, _⟩
  have hv2 := (hv.ext e1).ext e2
  cases d with
  | array len elem =>
    cases hv2 with
    | agg h1 h2 =>
      simp only
      split
      · refine sim_bind (sim_sizeOf elem) ?_
        rintro u4 e4 n _ rfl
        exact sim_part (VRs.ext ⟨h1, h2⟩ e4) _ _
      · exact sim_boundsPanic _ _ _ _
    | _ => exact sim_stuck
  | string =>
    cases hv2 with
    | string s =>
      simp only
      split
      · exact sim_ret (.int _ _)
      · exact sim_boundsPanic _ _ _ _
    | _ => exact sim_stuck
  | _ => exact sim_stuck
theorem sim_makeInterface {v v' : Value} (hv : VR u v v') (t : TypeId) : SimAt P N u (Instr.makeInterface t v) (Instr.makeInterface t v') VR := by
  unfold Instr.makeInterface
  refine sim_bind (sim_underlying t) ?_
  rintro u2 e2 d _ ⟨rfl, _⟩
  split
  · exact sim_stuck
  · exact sim_ret (.iface _ (hv.ext e2))
theorem sim_makeFunc {f : Fn} (hf : FnR u f f) {a b c d : Array Value} (h : VRs u a b) (h' : VRs u c d) : SimAt P N u (Instr.makeFunc f a c) (Instr.makeFunc f b d) VR :=
  sim_ret (.func hf h.1 h.2 h'.1 h'.2)
theorem sim_makeMap {x x' : Option Value} (hx : (x = none ∧ x' = none) ∨ ∃ v v', x = some v ∧ x' = some v' ∧ VR u v v') (t : TypeId) : SimAt P N u (Instr.makeMap t x) (Instr.makeMap t x') VR := by
  have fin : ∀ u', SimAt P N u' (do pure (Value.map (some (← newObj (.map #[] 0))))) (do pure (Value.map (some (← newObj (.map #[] 0))))) VR := fun u' => by
    refine sim_bind (sim_new 0 0 (fun r => .map ⟨rfl, fun i x y h => by simp at h⟩) (fun c e fz h => by cases h)) ?_
    intro u2 e2 r s hr
    exact sim_ret (.map hr)
  unfold Instr.makeMap
  rcases hx with ⟨rfl, rfl⟩ | ⟨v, v', rfl, rfl, hv⟩
  · exact fin u
  · simp only
    refine sim_bind (sim_underlying t) ?_
    rintro u2 e2 d _ ⟨rfl, _⟩
    split
    · refine sim_bind (sim_asInt (hv.ext e2)) ?_
      rintro u3 e3 n _ rfl
      exact fin u3
    · exact sim_stuck
theorem VRs.get! {cs ds : Array Value} (h : VRs u cs ds) (i : Nat) : VR u cs[i]! ds[i]! := by
  rw [getElem!_def, getElem!_def]
  cases hc : cs[i]? with
  | none => rw [h.get_none hc]; exact VR.of_closed (d := 1) rfl
  | some a => obtain ⟨b, hb, hr⟩ := h.get hc; rw [hb]; exact hr
theorem VRs.cycle {cs ds : Array Value} (h : VRs u cs ds) (n : Nat) : VRs u ((Array.range n).map fun x => cs[x % cs.size]!) ((Array.range n).map fun x => ds[x % ds.size]!) := by
  refine ⟨by simp, fun i a b ha hb => ?_⟩
  rw [Array.getElem?_map] at ha hb
  rw [← h.1] at hb
  cases hr : (Array.range n)[i]? with
  | none => rw [hr] at ha; cases ha
  | some x => rw [hr] at ha hb; cases ha; cases hb; exact h.get! _
theorem wrap_big (c : Int) : (IntKind.i64.wrap c).toNat < BIG := by
  unfold BIG
  simp [IntKind.wrap, IntKind.bits, IntKind.signed]
  omega
theorem sim_makeSlice {t : TypeId} (hz : zokE P t = true) {a a' b b' : Value} (ha : VR u a a') (hb : VR u b b') : SimAt P N u (Instr.makeSlice t a b) (Instr.makeSlice t a' b') VR := by
  unfold Instr.makeSlice
  refine sim_bind (sim_underlying t) ?_
  rintro u1 e1 d _ ⟨rfl, hd⟩
  unfold zokE at hz
  rw [hd] at hz
  cases d with
  | slice elem =>
    refine sim_bind (sim_asInt (ha.ext e1)) ?_
    rintro u2 e2 l _ rfl
    refine sim_bind (sim_asInt ((hb.ext e1).ext e2)) ?_
    rintro u3 e3 c _ rfl
    refine sim_bind (sim_typeInfo elem) ?_
    rintro u4 e4 i _ ⟨rfl, _⟩
    extract_lets bytes tooLarge l0 c0 j1
    have hj : ∀ u', SimAt P N u' (j1 ()) (j1 ()) VR := by
      intro u'
      refine sim_bind (sim_askRoom _ _) ?_
      intro u5 e5 _ _ _
      refine sim_bind (sim_sizeOf elem) ?_
      rintro u6 e6 n _ rfl
      extract_lets n0 j2
      have hj2 : ∀ u7, ∀ cs ds, VRs u7 cs ds → SimAt P N u7 (j2 cs) (j2 ds) VR := by
        intro u7 cs ds h
        refine sim_bind (sim_newRow (h.cycle n0)) ?_
        intro u8 e8 a b hab
        exact sim_ret (.slice _ _ hab (wrap_big c))
      split
      · exact hj2 _ _ _ (VRs.nil _)
      · refine sim_bind (sim_zeroValue hz) ?_
        intro u9 e9 a b hab
        exact hj2 _ _ _ (VRs.cells hab)
    split
    · split
      · exact sim_bind (S := fun _ _ _ => False) (sim_error _) fun _ _ _ _ h => h.elim
      · split
        · exact sim_bind (S := fun _ _ _ => False) (sim_error _) fun _ _ _ _ h => h.elim
        · exact sim_none fun c => by rw [crun_bind]; rfl
    · exact hj u4
  | _ => exact sim_stuck
theorem sim_sliceBound {v v' : Value} (hv : VR u v v') (y : Nat) (code : BoundsCode) : SimAt P N u (Instr.sliceBound v y code) (Instr.sliceBound v' y code) (fun _ a b => a = b ∧ a ≤ y) := by
  unfold Instr.sliceBound
  refine sim_bind (sim_asIntOf hv) ?_
  rintro u1 e1 ⟨k, i⟩ _ rfl
  simp only
  split
  · exact sim_ret ⟨rfl, by omega⟩
  · exact sim_boundsPanic _ _ _ _
/-- an operand that may lack, and holds no address -/
def VC : Option Value → Prop
  | none => True
  | some v => ∀ u, VR u v v
theorem sim_sliceBounds {lo hi mx : Option Value} (hl : VC lo) (hh : VC hi) (hm : VC mx) (b : Bool) (len cap : Nat) :
    SimAt P N u (Instr.sliceBounds b len cap lo hi mx) (Instr.sliceBounds b len cap lo hi mx) (fun _ x y => x = y ∧ x.2.2 ≤ cap) := by
  unfold Instr.sliceBounds
  extract_lets j1
  have hj : ∀ u' m, m ≤ cap → SimAt P N u' (j1 m) (j1 m) (fun _ x y => x = y ∧ x.2.2 ≤ cap) := by
    intro u' m hmc
    simp only [j1]
    have hk : ∀ (v : Option Value) (u2 : Ren) (y : Nat) (code : BoundsCode) (f : Nat → Nat × Nat × Nat), (∀ l, (f l).2.2 = m) → VC v →
        SimAt P N u2 (match v with | some v => do let __x ← Instr.sliceBound v y code; pure (f __x) | none => do let __x ← pure 0; pure (f __x))
          (match v with | some v => do let __x ← Instr.sliceBound v y code; pure (f __x) | none => do let __x ← pure 0; pure (f __x)) (fun _ x y => x = y ∧ x.2.2 ≤ cap) := by
      intro v u2 y code f hf hv
      cases v with
      | none => exact sim_ret ⟨rfl, by rw [hf]; exact hmc⟩
      | some v =>
        refine sim_bind (sim_sliceBound (hv u2) y code) ?_
        rintro u3 e3 l _ ⟨rfl, _⟩
        exact sim_ret ⟨rfl, by rw [hf]; exact hmc⟩
    cases hi with
    | none =>
      cases mx with
      | none => exact hk lo u' _ _ (fun l => (l, len, m)) (fun _ => rfl) hl
      | some w => exact sim_none fun c => by rw [crun_bind]; rfl
    | some v =>
      cases mx with
      | none =>
        refine sim_bind (sim_sliceBound (hh u') _ _) ?_
        rintro u3 e3 h _ ⟨rfl, _⟩
        exact hk lo u3 _ _ (fun l => (l, h, m)) (fun _ => rfl) hl
      | some w =>
        refine sim_bind (sim_sliceBound (hh u') _ _) ?_
        rintro u3 e3 h _ ⟨rfl, _⟩
        exact hk lo u3 _ _ (fun l => (l, h, m)) (fun _ => rfl) hl
  cases mx with
  | none => exact hj u cap (Nat.le_refl _)
  | some w =>
    refine sim_bind (sim_sliceBound (hm u) _ _) ?_
    rintro u3 e3 m _ ⟨rfl, hle⟩
    exact hj u3 m hle
theorem sim_asAddr {v v' : Value} (hv : VR u v v') : SimAt P N u (asAddr v) (asAddr v') AR := by
  cases hv with
  | ptr h => exact sim_ret h
  | ptrNil => exact sim_nilDeref
  | _ => exact sim_stuck
theorem AR.at_ {a b : Addr} (h : AR u a b) (c : Prop) [Decidable c] (n : Nat) : AR u (if c then a else a.add n) (if c then b else b.add n) := by
  split
  · exact h
  · exact h.add n
/-- a slice of a string, or of a slice whose capacity is known -/
theorem sim_slice {t : TypeId} (hz : arrOK P t = true) {v v' : Value} (hv : VR u v v') (hc : ∀ a n c, v = .slice a n c → c < BIG) {lo hi mx : Option Value} (hl : VC lo) (hh : VC hi) (hm : VC mx) :
    SimAt P N u (Instr.slice t v lo hi mx) (Instr.slice t v' lo hi mx) VR := by
  unfold Instr.slice
  refine sim_bind (sim_underlying t) ?_
  rintro u1 e1 d _ ⟨rfl, hdt⟩
  unfold arrOK at hz
  rw [hdt] at hz
  cases d with
  | string =>
    cases hv with
    | string s =>
      simp only
      split
      · exact sim_none fun c => by rw [crun_bind]; rfl
      · refine sim_bind (sim_sliceBounds (mx := none) hl hh trivial _ _ _) ?_
        rintro u2 e2 ⟨l, h, m⟩ _ ⟨rfl, _⟩
        exact sim_ret (.string _)
    | _ => exact sim_stuck
  | slice elem =>
    cases hv with
    | sliceNil n c =>
      simp only
      refine sim_bind (sim_sliceBounds hl hh hm _ _ _) ?_
      rintro u2 e2 ⟨l, h, m⟩ _ ⟨rfl, hle⟩
      refine sim_bind (sim_sizeOf elem) ?_
      rintro u3 e3 n _ rfl
      simp only [Option.map_none, ite_self]
      exact sim_ret (.sliceNil _ _)
    | slice n c h hb =>
      simp only
      refine sim_bind (sim_sliceBounds hl hh hm _ _ _) ?_
      rintro u2 e2 ⟨l, h', m⟩ _ ⟨rfl, hle⟩
      refine sim_bind (sim_sizeOf elem) ?_
      rintro u3 e3 n _ rfl
      have hab := ((h.ext e1).ext e2).ext e3
      simp only [Option.map_some]
      by_cases hml : m = l
      · simp only [hml, if_true]
        exact sim_ret (.slice _ _ hab (by simp only at hle; omega))
      · simp only [hml, if_false]
        exact sim_ret (.slice _ _ (hab.add _) (by simp only at hle; omega))
    | sliceG n c c' h hn hc' hr => exact absurd (hc _ _ _ rfl) (by omega)
    | _ => exact sim_stuck
  | pointer arr =>
    refine sim_bind (sim_asAddr (hv.ext e1)) ?_
    intro u2 e2 a b hab
    refine sim_bind (sim_underlying arr) ?_
    rintro u3 e3 d _ ⟨rfl, hd⟩
    cases d with
    | array n elem =>
      refine sim_bind (sim_sliceBounds hl hh hm _ _ _) ?_
      rintro u4 e4 ⟨l, h, m⟩ _ ⟨rfl, hle⟩
      refine sim_bind (sim_sizeOf elem) ?_
      rintro u5 e5 k _ rfl
      have := hz
      simp only [hd, decide_eq_true_eq] at this
      exact sim_ret (.slice _ _ ((((hab.ext e3).ext e4).ext e5).at_ _ _) (by simp only at hle; omega))
    | _ => exact sim_stuck
  | _ => exact sim_stuck
theorem sim_sliceAt {t : TypeId} (hz : arrOK P t = true) {v v' : Value} (hv : VR u v v') (hc : ∀ a n c, v = .slice a n c → c < BIG) {lo hi mx : Option Value} (hl : VC lo) (hh : VC hi) (hm : VC mx) :
    SimAt P N u (Instr.sliceAt t v lo hi mx) (Instr.sliceAt t v' lo hi mx) VR := by
  unfold Instr.sliceAt
  refine sim_bind (sim_underlying t) ?_
  rintro u1 e1 d _ ⟨rfl, hd⟩
  cases d with
  | array n elem =>
    refine sim_bind (sim_sureAddr (hv.ext e1)) ?_
    intro u2 e2 a b hab
    refine sim_bind (sim_sliceBounds hl hh hm _ _ _) ?_
    rintro u3 e3 ⟨l, h, m⟩ _ ⟨rfl, hle⟩
    refine sim_bind (sim_sizeOf elem) ?_
    rintro u4 e4 k _ rfl
    have := hz
    unfold arrOK at this
    simp only [hd, decide_eq_true_eq] at this
    exact sim_ret (.slice _ _ (((hab.ext e3).ext e4).at_ _ _) (by simp only at hle; omega))
  | _ => exact sim_slice hz (hv.ext e1) hc hl hh hm
end
end Go.Proofs.Simul
/-
  A canonical run serves every run. Part F: literals, copies, texts, calls.
-/
namespace Go.Proofs.Simul
open Go Go.RowKit

section
variable {P : Program} {N : Nat → Prop} {u : Ren}
/-- parts of a literal, place for place -/
inductive PL (u : Ren) : List (Nat × Value) → List (Nat × Value) → Prop
  | nil : PL u [] []
  | cons {i : Nat} {a b : Value} {l m : List (Nat × Value)} (h : VR u a b) (hs : PL u l m) : PL u ((i, a) :: l) ((i, b) :: m)
theorem PL.ext {u u' : Ren} {l m : List (Nat × Value)} (h : PL u l m) (he : Ext u u') : PL u' l m := by
  induction h with
  | nil => exact .nil
  | cons h hs ih => exact .cons (h.ext he) ih
theorem VRs.sets {off : Nat} : ∀ {l m : List Value} {cs ds : Array Value} (j : Nat), VRs u cs ds → VL u l m →
    VRs u ((l.zipIdx j).foldl (fun cs (c, j) => cs.setIfInBounds (off + j) c) cs) ((m.zipIdx j).foldl (fun cs (c, j) => cs.setIfInBounds (off + j) c) ds)
  | [], [], cs, ds, j, h, hl => h
  | a :: l, b :: m, cs, ds, j, h, hl => by
    cases hl with
    | cons hv hs =>
      simp only [List.zipIdx_cons, List.foldl_cons]
      exact VRs.sets (j + 1) (h.set hv _) hs
  | [], _ :: _, _, _, _, _, hl => by cases hl
  | _ :: _, [], _, _, _, _, hl => by cases hl
theorem fill_rel (place : Nat → Option (Nat × Nat)) {l m : List (Nat × Value)} (hl : PL u l m) : ∀ {cs ds : Array Value}, VRs u cs ds →
    (Instr.fill place cs l = none ∧ Instr.fill place ds m = none) ∨ ∃ x y, Instr.fill place cs l = some x ∧ Instr.fill place ds m = some y ∧ VRs u x y := by
  induction hl with
  | nil => intro cs ds h; exact .inr ⟨_, _, rfl, rfl, h⟩
  | @cons i a b l m hv hs ih =>
    intro cs ds h
    unfold Instr.fill
    have hc := VRs.cells hv
    cases hp : place i with
    | none => exact .inl ⟨rfl, rfl⟩
    | some x =>
      obtain ⟨off, size⟩ := x
      simp only [← hc.1, ← h.1]
      split
      · exact .inl ⟨rfl, rfl⟩
      · refine ih ?_
        have := VRs.sets (off := off) 0 h (VRs.list hc)
        rw [← Array.foldl_toList, ← Array.foldl_toList, Array.toList_zipIdx, Array.toList_zipIdx]
        exact this
theorem sim_map {α β γ δ : Type} {S : Ren → α → β → Prop} {R : Ren → γ → δ → Prop} {s : Sem α} {t : Sem β} {f : α → γ} {g : β → δ} (hs : SimAt P N u s t S) (hf : ∀ u' a b, Ext u u' → S u' a b → R u' (f a) (g b)) :
    SimAt P N u (f <$> s) (g <$> t) R := by
  rw [map_eq_pure_bind, map_eq_pure_bind]
  exact sim_bind hs fun u' e a b hab => sim_ret (hf _ _ _ e hab)
theorem sim_mapList {α β : Type} {f : α → Sem β} (hf : ∀ u' a, SimAt P N u' (f a) (f a) (fun _ x y => x = y)) : ∀ (l : List α) (u : Ren), SimAt P N u (l.mapM f) (l.mapM f) (fun _ x y => x = y)
  | [], u => by simp only [List.mapM_nil]; exact sim_ret rfl
  | a :: l, u => by
    simp only [List.mapM_cons]
    refine sim_bind (hf u a) ?_
    rintro u1 e1 x _ rfl
    refine sim_bind (sim_mapList hf l u1) ?_
    rintro u2 e2 y _ rfl
    exact sim_ret rfl
theorem sim_build {t : TypeId} (hz : zok P t = true) {ps qs : Array (Nat × Value)} (h : PL u ps.toList qs.toList) : SimAt P N u (Instr.build t ps) (Instr.build t qs) VR := by
  unfold Instr.build
  refine sim_bind (sim_zeroValue hz) ?_
  intro u1 e1 z z' hzz
  have hzc := VRs.cells hzz
  extract_lets zs zs'
  refine sim_bind (sim_underlying t) ?_
  rintro u2 e2 d _ ⟨rfl, _⟩
  have fin : ∀ (msg : String) u3, Ext u1 u3 → ∀ place : Nat → Option (Nat × Nat), SimAt P N u3
      (match Instr.fill place zs ps.toList with | some cells => pure (Value.agg cells) | x => stuck msg)
      (match Instr.fill place zs' qs.toList with | some cells => pure (Value.agg cells) | x => stuck msg) VR := by
    intro msg u3 e3 place
    rcases fill_rel place ((h.ext e1).ext e3) (hzc.ext e3) with ⟨h1, h2⟩ | ⟨x, y, h1, h2, h3⟩
    · simp only [zs, zs'] at *; rw [h1]; exact sim_stuck
    · simp only [zs, zs'] at *; rw [h1, h2]; exact sim_ret (.agg h3.1 h3.2)
  cases d with
  | struct fields =>
    refine sim_bind (S := fun _ a b => a = b) ?_ ?_
    · rw [Array.mapM_eq_mapM_toList]
      refine sim_map (S := fun _ x y => x = y) (sim_mapList (fun u' a => ?_) _ _) (fun u' a b _ h => by rw [h])
      refine sim_bind (sim_sizeOf _) ?_
      rintro u3 e3 n _ rfl
      exact sim_ret rfl
    · rintro u3 e3 pl _ rfl
      exact fin _ u3 (e2.trans e3) _
  | array len elem =>
    refine sim_bind (sim_sizeOf elem) ?_
    rintro u3 e3 n _ rfl
    exact fin _ u3 (e2.trans e3) (fun i => some (i * n, n))
  | _ => exact sim_stuck
theorem sim_buildSlice {t : TypeId} (hz : zokE P t = true) {ps qs : Array (Nat × Value)} (h : PL u ps.toList qs.toList) (len : Nat) (hlen : len < BIG) : SimAt P N u (Instr.buildSlice t len ps) (Instr.buildSlice t len qs) VR := by
  unfold Instr.buildSlice
  refine sim_bind (sim_underlying t) ?_
  rintro u1 e1 d _ ⟨rfl, hd⟩
  unfold zokE at hz
  rw [hd] at hz
  cases d with
  | slice elem =>
    refine sim_bind (sim_sizeOf elem) ?_
    rintro u2 e2 size _ rfl
    extract_lets j1 k1 j2 k2
    have hj1 : ∀ u', Ext u2 u' → ∀ cs ds, VRs u' cs ds → SimAt P N u' (j1 cs) (j2 ds) VR := by
      intro u' e' cs ds hc
      rcases fill_rel (fun i => some (i * size, size)) (((h.ext e1).ext e2).ext e') (hc.cycle (len * size)) with ⟨h1, h2⟩ | ⟨x, y, h1, h2, h3⟩
      · simp only [j1, h1]; exact sim_stuck
      · simp only [j1, j2, h1, h2]
        refine sim_bind (sim_newRow h3) ?_
        intro u3 e3 a b hab
        exact sim_ret (.slice _ _ hab hlen)
    split
    · exact sim_none fun c => by rw [crun_bind]; rfl
    · simp only [k1, k2]
      split
      · exact hj1 u2 (Ext.refl _) _ _ (VRs.nil _)
      · refine sim_bind (sim_zeroValue hz) ?_
        intro u9 e9 a b hab
        exact hj1 u9 e9 _ _ (VRs.cells hab)
  | _ => exact sim_stuck
theorem sim_lenOf {v v' : Value} (hv : VR u v v') : SimAt P N u (Builtin.lenOf v) (Builtin.lenOf v') (fun _ a b => a = b) := by
  cases hv with
  | string s => exact sim_ret rfl
  | sliceNil n c => exact sim_ret rfl
  | slice n c h hc => exact sim_ret rfl
  | sliceG n c c' h hn hc hr => exact sim_ret rfl
  | _ => exact sim_stuck
theorem VRs.bytes (s : ByteArray) (n : Nat) : VRs u ((s.extract 0 n).data.map fun b => Value.int .u8 b.toNat) ((s.extract 0 n).data.map fun b => Value.int .u8 b.toNat) :=
  ⟨rfl, fun i a b ha hb => by
    rw [ha] at hb; cases hb
    rw [Array.getElem?_map] at ha
    cases hx : (s.extract 0 n).data[i]? with
    | none => rw [hx] at ha; cases ha
    | some x => rw [hx] at ha; cases ha; exact .int _ _⟩
theorem sim_firstCells {v v' : Value} (hv : VR u v v') (size n : Nat) : SimAt P N u (Builtin.firstCells size n v) (Builtin.firstCells size n v') VRs := by
  cases hv with
  | string s => exact sim_ret (VRs.bytes s n)
  | sliceNil n c => exact sim_ret (VRs.nil _)
  | slice n c h hc => exact sim_loadCells h _
  | sliceG n c c' h hn hc hr => exact sim_loadCells h _
  | _ => exact sim_stuck
theorem sim_copy {as bs : Array Value} (h : VRs u as bs) (ts : Array TypeId) (t : TypeId) : SimAt P N u (Builtin.copy_ ts t as) (Builtin.copy_ ts t bs) VR := by
  unfold Builtin.copy_
  cases ht : ts[0]? with
  | none => exact sim_stuck
  | some dt =>
    cases h0 : as[0]? with
    | none => exact sim_stuck
    | some x =>
      obtain ⟨x', hx', hx⟩ := h.get h0
      cases h1 : as[1]? with
      | none => exact sim_stuck
      | some y =>
        obtain ⟨y', hy', hy⟩ := h.get h1
        rw [hx', hy']
        simp only
        refine sim_bind (sim_underlying dt) ?_
        rintro u1 e1 d _ ⟨rfl, _⟩
        cases d with
        | slice elem =>
          have pre : ∀ {f g : Nat → Array Value → Sem Value}, (∀ u' n cs ds, Ext u1 u' → VRs u' cs ds → SimAt P N u' (f n cs) (g n ds) VR) → ∀ dLen : Nat,
              SimAt P N u1 (do let __x ← Builtin.lenOf y; let k ← sizeOf elem; let cells ← Builtin.firstCells k (Nat.min __x dLen) y; f (Nat.min __x dLen) cells)
                (do let __x ← Builtin.lenOf y'; let k ← sizeOf elem; let cells ← Builtin.firstCells k (Nat.min __x dLen) y'; g (Nat.min __x dLen) cells) VR := by
            intro f g hfg dLen
            refine sim_bind (sim_lenOf (hy.ext e1)) ?_
            rintro u2 e2 n _ rfl
            refine sim_bind (sim_sizeOf elem) ?_
            rintro u3 e3 k _ rfl
            refine sim_bind (sim_firstCells (((hy.ext e1).ext e2).ext e3) _ _) ?_
            intro u4 e4 cs ds hcd
            exact hfg u4 _ cs ds ((e2.trans e3).trans e4) hcd
          cases hx.ext e1 with
          | sliceNil n c =>
            dsimp only
            exact pre (f := fun n cs => pure (goInt n)) (g := fun n cs => pure (goInt n)) (fun u' n cs ds _ _ => sim_ret (.int _ _)) n
          | @slice a b n c h hc =>
            dsimp only
            exact pre (f := fun n cs => storeCells a cs.toList >>= fun _ => pure (goInt n)) (g := fun n cs => storeCells b cs.toList >>= fun _ => pure (goInt n))
              (fun u' n cs ds e' hcd => sim_bind (sim_storeCells (h.ext e') 0 (Ext.refl _) (VRs.list hcd)) fun u5 e5 _ _ _ => sim_ret (.int _ _)) n
          | @sliceG a b n c c' h hn hc hr =>
            dsimp only
            exact pre (f := fun n cs => storeCells a cs.toList >>= fun _ => pure (goInt n)) (g := fun n cs => storeCells b cs.toList >>= fun _ => pure (goInt n))
              (fun u' n cs ds e' hcd => sim_bind (sim_storeCells (h.ext e') 0 (Ext.refl _) (VRs.list hcd)) fun u5 e5 _ _ _ => sim_ret (.int _ _)) n
          | _ => exact sim_stuck
        | _ => exact sim_stuck
theorem sim_len {as bs : Array Value} (h : VRs u as bs) (ts : Array TypeId) (t : TypeId) : SimAt P N u (Builtin.len_ ts t as) (Builtin.len_ ts t bs) VR := by
  unfold Builtin.len_
  cases ht : ts[0]? with
  | none => exact sim_stuck
  | some dt =>
    cases h0 : as[0]? with
    | none => exact sim_stuck
    | some x =>
      obtain ⟨x', hx', hx⟩ := h.get h0
      rw [hx']
      simp only
      refine sim_bind (sim_underlying dt) ?_
      rintro u1 e1 d _ ⟨rfl, _⟩
      cases d with
      | string => cases hx.ext e1 with
        | string s => exact sim_ret (.int _ _)
        | _ => exact sim_stuck
      | array n e => exact sim_ret (.int _ _)
      | pointer e =>
        refine sim_bind (sim_underlying e) ?_
        rintro u2 e2 d _ ⟨rfl, _⟩
        cases d with
        | array n e => exact sim_ret (.int _ _)
        | _ => exact sim_stuck
      | slice e => cases hx.ext e1 with
        | sliceNil n c => exact sim_ret (.int _ _)
        | slice n c h hc => exact sim_ret (.int _ _)
        | sliceG n c c' h hn hc hr => exact sim_ret (.int _ _)
        | _ => exact sim_stuck
      | map k e => cases hx.ext e1 with
        | mapNil => exact sim_ret (.int _ _)
        | map h =>
          refine sim_bind (sim_getObj h) ?_
          rintro u2 e2 o o' ⟨ho, hd⟩
          cases ho with
          | map hm => simp only [hm.1]; exact sim_ret (.int _ _)
          | _ => exact sim_stuck
        | _ => exact sim_stuck
      | chan k e => cases hx.ext e1 with
        | chanNil => exact sim_ret (.int _ _)
        | _ => exact sim_stuck
      | _ => exact sim_stuck
end
end Go.Proofs.Simul
/-
  A canonical run serves every run. Part G: slices whose capacity is open, append, texts and bytes.
-/
namespace Go.Proofs.Simul
open Go Go.RowKit

/-- as SimAt, for whatever computes the canonical result -/
def SimC {α β : Type} (P : Program) (N : Nat → Prop) (u : Ren) (c : World → Option (Except Value α × World)) (t : Sem β) (R : Ren → α → β → Prop) : Prop :=
  ∀ h w, HR P N u h w → ∀ r h', c h = some (r, h') → ∃ u' w', Ext u u' ∧ HR P N u' h' w' ∧ Keeps N w w' ∧ Fits P t w w' u' R r

def oneCell : Value → Bool
  | .agg _ | .tuple _ => false
  | _ => true
def overCells (c : Array Value) (k : Nat) : List Value → Array Value
  | [] => c
  | v :: l => overCells (c.setIfInBounds k v) (k + 1) l
theorem overCells_size : ∀ (l : List Value) (c : Array Value) (k : Nat), (overCells c k l).size = c.size
  | [], _, _ => rfl
  | v :: l, c, k => by unfold overCells; rw [overCells_size l]; simp
theorem overCells_get : ∀ (l : List Value) (c : Array Value) (k j : Nat), k + l.length ≤ c.size → (overCells c k l)[j]? = if j < k then c[j]? else if j < k + l.length then l[j - k]? else c[j]?
  | [], c, k, j, _ => by
    unfold overCells
    simp only [List.length_nil, Nat.add_zero]
    split
    · rfl
    · rfl
  | v :: l, c, k, j, h => by
    simp only [List.length_cons] at h
    unfold overCells
    rw [overCells_get l _ (k + 1) j (by simp; omega), Array.getElem?_setIfInBounds]
    simp only [List.length_cons]
    by_cases h1 : j < k
    · rw [if_pos (by omega), if_neg (by omega), if_pos h1]
    · rw [if_neg h1]
      by_cases h2 : j = k
      · subst h2
        rw [if_pos (by omega), if_pos rfl, if_pos (by omega), if_pos (by omega)]; simp
      · rw [if_neg (by omega : ¬ j < k + 1)]
        by_cases h3 : j < k + (l.length + 1)
        · rw [if_pos (by omega), if_pos h3]
          have : j - k = (j - (k + 1)) + 1 := by omega
          rw [this]; simp
        · rw [if_neg (by omega), if_neg h3, if_neg (by omega)]

section
variable {P : Program} {N : Nat → Prop} {u : Ren}
theorem run_storeCells {b : Addr} {e : TypeId} {fz : Nat × Nat} (hs : b.spot = none) : ∀ (l : List Value) (i : Nat) (w : World) (c : Array Value), w.heap[b.block]? = some (.cells c e fz) →
    (fz.2 ≤ fz.1 ∨ c.size ≤ fz.1) → (∀ v ∈ l, oneCell v = true) → b.off + i + l.length ≤ c.size →
    (storeCells b l i).run P w = .ok () { w with heap := w.heap.setIfInBounds b.block (.cells (overCells c (b.off + i) l) e fz) }
  | [], i, w, c, hb, hf, h1, hn => by
    have : w.heap.setIfInBounds b.block (.cells c e fz) = w.heap := by
      apply Array.ext_getElem?
      intro j
      rw [Array.getElem?_setIfInBounds]
      split
      · rename_i e; subst e
        have := (Array.getElem?_eq_some_iff.1 hb).1
        rw [if_pos this, hb]
      · rfl
    show Result.ok () w = _
    unfold overCells
    rw [this]
  | v :: l, i, w, c, hb, hf, h1, hn => by
    simp only [List.length_cons] at hn
    have hadd : ∃ sp, b.add i = ⟨b.block, b.off + i, sp⟩ ∧ sp = none := by
      unfold Addr.add; split
      · rename_i h0; subst h0; exact ⟨b.spot, rfl, hs⟩
      · exact ⟨none, rfl, rfl⟩
    obtain ⟨sp, hadd, rfl⟩ := hadd
    have hcell : w.cell? (b.add i) = some (c[b.off + i]'(by omega)) := by
      rw [hadd]; unfold World.cell?; simp only [hb]
      simp
    have hfr : w.frozen? (b.add i) = false := by
      rw [hadd]; unfold World.frozen?; simp only [hb]
      simp only [Bool.and_eq_false_iff, decide_eq_false_iff_not]
      rcases hf with hf | hf <;> omega
    have hst : (store (b.add i) v).run P w = .ok () (w.setCell (b.add i) v) := by
      have h1v := h1 v (by simp)
      unfold store
      cases v <;> simp_all [Sem.run, oneCell]
    have hset : (w.setCell (b.add i) v) = { w with heap := w.heap.setIfInBounds b.block (.cells (c.setIfInBounds (b.off + i) v) e fz) } := by
      unfold World.setCell
      rw [hadd]
      congr 1
      apply Array.ext_getElem?
      intro j
      rw [Array.getElem?_modify, Array.getElem?_setIfInBounds]
      split
      · rename_i e; subst e
        have := (Array.getElem?_eq_some_iff.1 hb).1
        rw [if_pos this, hb]; simp
      · rfl
    have hblk : (w.setCell (b.add i) v).heap[b.block]? = some (.cells (c.setIfInBounds (b.off + i) v) e fz) := by
      rw [hset]
      have := (Array.getElem?_eq_some_iff.1 hb).1
      simp [this]
    show ((store (b.add i) v) >>= fun _ => storeCells b l (i + 1)).run P w = _
    rw [Sem.run_bind, hst]
    show (storeCells b l (i + 1)).run P (w.setCell (b.add i) v) = _
    rw [run_storeCells hs l (i + 1) _ _ hblk (by simpa using hf) (fun x hx => h1 x (by simp [hx])) (by simp; omega), hset]
    simp only [overCells, Nat.add_assoc]
    congr 2
    apply Array.ext_getElem?
    intro j
    simp only [Array.getElem?_setIfInBounds, Array.size_setIfInBounds]
    split <;> rfl
theorem ro_loadCellsFrom {h w : World} (H : HR P N u h w) {a b : Addr} (ha : AR u a b) : ∀ (n i : Nat) (acc acc' : Array Value) (r : Except Value (Array Value)) (h' : World), crun P (loadCellsFrom a i n acc) h = some (r, h') →
    h' = h ∧ ∃ cs ds, r = .ok (acc ++ cs) ∧ cs.size = n ∧ (∀ W : World, W.heap = w.heap → (loadCellsFrom b i n acc').run P W = .ok (acc' ++ ds) W) ∧ VRs u cs ds ∧ ∀ j, j < n → w.cell? (b.add (i + j)) = ds[j]?
  | 0, i, acc, acc', r, h', hc => by
    have : r = .ok acc ∧ h' = h := by simpa [loadCellsFrom, crun, pure] using hc.symm
    obtain ⟨rfl, rfl⟩ := this
    exact ⟨rfl, #[], #[], by simp, rfl, fun W _ => by simp [loadCellsFrom, pure], VRs.nil _, fun j hj => by omega⟩
  | n + 1, i, acc, acc', r, h', hc => by
    unfold loadCellsFrom at hc
    rw [crun_bind] at hc
    cases hcell : h.cell? (a.add i) with
    | none => simp [load, crun, hcell] at hc
    | some v =>
      simp only [load, crun, hcell] at hc
      obtain ⟨v', hv', hV, _⟩ := H.cell (ha.add i) hcell
      obtain ⟨rfl, cs, ds, hr, hsz, hrun, hvs, hcells⟩ := ro_loadCellsFrom H ha n (i + 1) (acc.push v) (acc'.push v') r h' hc
      refine ⟨rfl, #[v] ++ cs, #[v'] ++ ds, by rw [hr]; simp, by simp [hsz]; omega, fun W hW => ?_, ((VRs.nil u).push hV).append hvs, ?_⟩
      · have hvW : W.cell? (b.add i) = some v' := by rw [← hv']; unfold World.cell?; rw [hW]
        unfold loadCellsFrom
        rw [Sem.run_bind]
        simp only [load, Sem.run, hvW, Result.andThen]
        rw [hrun W hW]; simp
      · intro j hj
        cases j with
        | zero => rw [Array.getElem?_append]; simp [hv']
        | succ j =>
          have := hcells j (by omega)
          rw [show i + (j + 1) = i + 1 + j by omega, this, Array.getElem?_append]
          simp
theorem ro_firstCells {h w : World} (H : HR P N u h w) {v v' : Value} (hv : VR u v v') (size n : Nat) {r : Except Value (Array Value)} {h' : World} (hc : crun P (Builtin.firstCells size n v) h = some (r, h')) :
    h' = h ∧ ∃ cs ds, r = .ok cs ∧ (∀ W : World, W.heap = w.heap → (Builtin.firstCells size n v').run P W = .ok ds W) ∧ VRs u cs ds ∧
      ∀ a b, v = .slice (some a) (match v with | .slice _ k _ => k | _ => 0) (match v with | .slice _ _ c => c | _ => 0) → AR u a b → (∀ j, j < n * size → w.cell? (b.add j) = ds[j]?) ∧ cs.size = n * size := by
  have byld : ∀ (a b : Addr), AR u a b → crun P (loadCells a (n * size)) h = some (r, h') → h' = h ∧ ∃ cs ds, r = .ok cs ∧ (∀ W : World, W.heap = w.heap → (loadCells b (n * size)).run P W = .ok ds W) ∧ VRs u cs ds ∧
      ((∀ j, j < n * size → w.cell? (b.add j) = ds[j]?) ∧ cs.size = n * size) := by
    intro a b hab hc
    obtain ⟨rfl, cs, ds, hr, hsz, hrun, hvs, hcells⟩ := ro_loadCellsFrom H hab (n * size) 0 #[] #[] r h' hc
    exact ⟨rfl, cs, ds, by simpa using hr, fun W hW => by simpa [loadCells] using hrun W hW, hvs, fun j hj => by simpa using hcells j hj, hsz⟩
  cases hv with
  | string s =>
    have : r = .ok ((s.extract 0 n).data.map fun b => .int .u8 b.toNat) ∧ h' = h := by simpa [Builtin.firstCells, crun, pure] using hc.symm
    obtain ⟨rfl, rfl⟩ := this
    exact ⟨rfl, _, _, rfl, fun _ _ => rfl, VRs.bytes s n, fun a b hx => by cases hx⟩
  | sliceNil k c =>
    have : r = .ok #[] ∧ h' = h := by simpa [Builtin.firstCells, crun, pure] using hc.symm
    obtain ⟨rfl, rfl⟩ := this
    exact ⟨rfl, _, _, rfl, fun _ _ => rfl, VRs.nil _, fun a b hx => by cases hx⟩
  | @slice a b k c hab hcap =>
    obtain ⟨rfl, cs, ds, h1, h2, h3, h4, h5⟩ := byld a b hab hc
    refine ⟨rfl, cs, ds, h1, h2, h3, fun a' b' hx hab' => ⟨fun j hj => ?_, h5⟩⟩
    cases hx
    have : b' = b := by
      obtain ⟨x1, x2, x3⟩ := hab
      obtain ⟨y1, y2, y3⟩ := hab'
      have := x1.uniq y1
      cases b; cases b'; simp_all
    rw [this]; exact h4 j hj
  | @sliceG a b k c c' hab hk hcc hro =>
    obtain ⟨rfl, cs, ds, h1, h2, h3, h4, h5⟩ := byld a b hab hc
    refine ⟨rfl, cs, ds, h1, h2, h3, fun a' b' hx hab' => ⟨fun j hj => ?_, h5⟩⟩
    cases hx
    have : b' = b := by
      obtain ⟨x1, x2, x3⟩ := hab
      obtain ⟨y1, y2, y3⟩ := hab'
      have := x1.uniq y1
      cases b; cases b'; simp_all
    rw [this]; exact h4 j hj
  | _ => simp [Builtin.firstCells, stuck, crun] at hc
theorem VR.oneCell_eq {v v' : Value} (h : VR u v v') : oneCell v' = oneCell v := by cases h <;> rfl
theorem grow_le (need old : Nat) (h : old < need) : Builtin.nextslicecap need old ≤ 2 * need + 1024 := by
  have step : ∀ (k c : Nat), c ≤ 2 * need + 1024 → Builtin.growBy need k c ≤ 2 * need + 1024 := by
    intro k
    induction k with
    | zero => intro c hc; exact hc
    | succ k ih =>
      intro c hc
      unfold Builtin.growBy
      split
      · exact hc
      · exact ih _ (by omega)
  unfold Builtin.nextslicecap
  split
  · omega
  · split
    · omega
    · exact step 4 old (by omega)
def lenV : Value → Option Nat
  | .slice _ n _ => some n
  | .string s => some s.size
  | _ => none
def lowCap (c : Nat) : Nat := if c < BIG then c else c - BIG
end
/-- append, canonical: what does not surely fit goes to a new block, and a block whose room is not known is given up -/
def growOK (i : TypeInfo) (elem : TypeId) (base : Option Addr) (need sCap : Nat) (h : World) : Bool :=
  decide (need ≤ 1048576) && decide (i.bytes ≤ 65536) && decide (0 < i.size) && (match i.zero with | some z => z.cells.size == i.size | none => false) &&
    (decide (sCap < BIG) || (match base with | some a => a.off == 0 && a.spot.isNone && (match h.heap[a.block]? with | some (.cells _ e _) => e == elem | _ => false) | none => false))
def cgrow (P : Program) (elem : TypeId) (base : Option Addr) (sLen sCap : Nat) (x : Value) (n : Nat) (h : World) : Option (Except Value Value × World) :=
  match P.info? elem with
  | none => none
  | some i =>
    if growOK i elem base (sLen + n) sCap h then
      match crun P (Builtin.firstCells i.size sLen (.slice base sLen sCap)) h with
      | some (.ok old, h1) =>
        match crun P (Builtin.firstCells i.size n x) h1 with
        | some (.ok new, h2) =>
          if new.toList.all oneCell && new.size == n * i.size && old.size == sLen * i.size then
            let h3 := if sCap < BIG then h2 else { h2 with heap := h2.heap.setIfInBounds ((base.map (·.block)).getD 0) dead }
            some (.ok (.slice (some ⟨h3.heap.size, 0, none⟩) (sLen + n) (BIG + (sLen + n))), h3.alloc (.cells (old ++ new) elem))
          else none
        | _ => none
      | _ => none
    else none
def cappend (P : Program) (ts : Array TypeId) (t : TypeId) (as : Array Value) (h : World) : Option (Except Value Value × World) :=
  match (ts[0]? : Option TypeId), (ts[1]? : Option TypeId), (as[0]? : Option Value), (as[1]? : Option Value) with
  | some t0, some t1, some (.slice base sLen sCap), some x =>
    match P.underlying t0, P.underlying t1, lenV x with
    | some (.slice elem), some d1, some n =>
      if (d1 matches .int _) || (P.info? elem).isNone then none
      else if sLen + n ≤ lowCap sCap then crun P (Builtin.append_ ts t as) h
      else cgrow P elem base sLen sCap x n h
    | _, _, _ => none
  | _, _, _, _ => none
end Go.Proofs.Simul
/-
  A canonical run serves every run. Part H: append.
-/
namespace Go.Proofs.Simul
open Go Go.RowKit

section
variable {P : Program} {N : Nat → Prop} {u : Ren}
theorem bind_ok {α β : Type} {s : Sem α} {f : α → Sem β} {w w1 : World} {a : α} (h : s.run P w = .ok a w1) : (s >>= f).run P w = (f a).run P w1 := by rw [Sem.run_bind, h]; rfl
theorem run_info {t : TypeId} {i : TypeInfo} (hi : P.info? t = some i) (w : World) : (typeInfo t).run P w = .ok i w := by simp [typeInfo, hi]
theorem run_size {t : TypeId} {i : TypeInfo} (hi : P.info? t = some i) (w : World) : (sizeOf t).run P w = .ok i.size w := by unfold sizeOf; rw [bind_ok (run_info hi w)]; rfl
theorem run_zero {t : TypeId} {i : TypeInfo} {z : Value} (hi : P.info? t = some i) (hz : i.zero = some z) (w : World) : (zeroValue t).run P w = .ok z w := by
  unfold zeroValue; rw [bind_ok (run_info hi w), hz]; rfl
theorem run_room (n : Nat) (w : World) : (askRoom n).run P w = .ok () w := by unfold askRoom; split <;> rfl
theorem sim_typeInfo_size {t : TypeId} {i : TypeInfo} (hi : P.info? t = some i) : SimAt P N u (sizeOf t) (sizeOf t) (fun _ a b => a = i.size ∧ b = i.size) := by
  unfold sizeOf
  refine sim_bind (sim_typeInfo t) ?_
  rintro u' e a _ ⟨rfl, hj⟩
  rw [hi] at hj; cases hj
  exact sim_ret ⟨rfl, rfl⟩
/-- what append has looked at before it asks whether there is room -/
structure Apd (P : Program) (ts : Array TypeId) (as : Array Value) (base : Option Addr) (sLen sCap n : Nat) (x : Value) (elem : TypeId) (i : TypeInfo) : Prop where
  ex : ∃ t0 t1 d1, ts[0]? = some t0 ∧ ts[1]? = some t1 ∧ P.underlying t0 = some (.slice elem) ∧ P.underlying t1 = some d1 ∧ (match d1 with | .int _ => true | _ => false) = false
  a0 : as[0]? = some (.slice base sLen sCap)
  a1 : as[1]? = some x
  n : lenV x = some n
  info : P.info? elem = some i
variable {ts : Array TypeId} {t elem : TypeId} {as : Array Value} {w : World} {base : Option Addr} {sLen sCap n : Nat} {x : Value} {i : TypeInfo}
theorem run_append_in (H : Apd P ts as base sLen sCap n x elem i) (hle : sLen + n ≤ sCap) {new : Array Value} {w1 w2 : World} (hnew : (Builtin.firstCells i.size n x).run P w = .ok new w1)
    (hst : (match base with | some a => (storeCells (a.add (sLen * i.size)) new.toList).run P w1 | none => .ok () w1) = .ok () w2) :
    (Builtin.append_ ts t as).run P w = .ok (.slice base (sLen + n) sCap) w2 := by
  obtain ⟨⟨t0, t1, d1, h0, h1, u0, u1, hd⟩, a0, a1, hn, hi⟩ := H
  have hl : (Builtin.lenOf x).run P w = .ok n w := by cases x <;> simp_all [lenV, Builtin.lenOf]
  unfold Builtin.append_
  simp only [h0, h1, a0, a1]
  rw [bind_ok (run_underlying u0 w)]
  dsimp only
  rw [bind_ok (run_size hi w), bind_ok (run_underlying u1 w)]
  rw [bind_ok (w1 := w) (a := false) (by cases d1 <;> first | rfl | exact absurd hd (by simp))]
  simp only [Bool.false_eq_true, if_false, Bool.not_false, if_true]
  rw [bind_ok hl, if_pos hle, bind_ok hnew]
  cases base with
  | none => simp only at hst; cases hst; rfl
  | some a => simp only at hst ⊢; rw [bind_ok hst]; rfl
theorem run_append_out (H : Apd P ts as base sLen sCap n x elem i) (hgt : ¬ sLen + n ≤ sCap) (hneed : sLen + n ≤ 1048576) (hb : i.bytes ≤ 65536) {z : Value} (hz : i.zero = some z) {old new : Array Value}
    (hold : ∀ W : World, W.heap = w.heap → (Builtin.firstCells i.size sLen (.slice base sLen sCap)).run P W = .ok old W)
    (hnew : ∀ W : World, W.heap = w.heap → (Builtin.firstCells i.size n x).run P W = .ok new W) :
    ∃ (k : Nat) (W : World), W.heap = w.heap ∧ W.os = w.os ∧ W.tape = w.tape ∧ W.output = w.output ∧ sLen + n ≤ k ∧
      (Builtin.append_ ts t as).run P w = .ok (.slice (some ⟨w.heap.size, 0, none⟩) (sLen + n) k) (W.alloc (.cells (old ++ new ++ Builtin.zeroCells z.cells (k - (sLen + n))) elem)) := by
  obtain ⟨⟨t0, t1, d1, h0, h1, u0, u1, hd⟩, a0, a1, hn, hi⟩ := H
  have hl : (Builtin.lenOf x).run P w = .ok n w := by cases x <;> simp_all [lenV, Builtin.lenOf]
  have hchoose : ∃ (k : Nat) (W : World), W.heap = w.heap ∧ W.os = w.os ∧ W.tape = w.tape ∧ W.output = w.output ∧ sLen + n ≤ k ∧ (choose (.appendCap (sLen + n) sCap elem)).run P w = .ok k W := by
    refine ⟨(Question.appendCap (sLen + n) sCap elem).cut (w.tape w.drawn (.appendCap (sLen + n) sCap elem)), { w with drawn := w.drawn + 1 }, rfl, rfl, rfl, rfl, ?_, ?_⟩
    · simp only [Question.cut]; omega
    · simp [choose, Sem.run, Question.forced]
  obtain ⟨k, W, e1, e2, e3, e4, hk, hch⟩ := hchoose
  refine ⟨k, W, e1, e2, e3, e4, hk, ?_⟩
  unfold Builtin.append_
  simp only [h0, h1, a0, a1]
  rw [bind_ok (run_underlying u0 w)]
  dsimp only
  rw [bind_ok (run_size hi w), bind_ok (run_underlying u1 w)]
  rw [bind_ok (w1 := w) (a := false) (by cases d1 <;> first | rfl | exact absurd hd (by simp))]
  simp only [Bool.false_eq_true, if_false, Bool.not_false, if_true]
  rw [bind_ok hl, if_neg hgt]
  rw [bind_ok (run_info hi w), if_neg (by rw [show IntKind.i64.max = 9223372036854775807 from rfl]; omega)]
  have hcap : Builtin.nextslicecap (sLen + n) sCap * i.bytes ≤ 2 ^ 48 := by
    have h1 := grow_le (sLen + n) sCap (by omega)
    have h2 : Builtin.nextslicecap (sLen + n) sCap * i.bytes ≤ (2 * 1048576 + 1024) * 65536 := Nat.mul_le_mul (by omega) hb
    omega
  rw [bind_ok (run_info hi w), if_neg (by omega)]
  rw [bind_ok hch, bind_ok (run_info hi W), bind_ok (run_room _ W), bind_ok (hold W e1), bind_ok (hnew W e1), bind_ok (run_zero hi hz W)]
  have hrow : (newRow elem (old ++ new ++ Builtin.zeroCells z.cells (k - (sLen + n)))).run P W = .ok ⟨W.heap.size, 0, none⟩ (W.alloc (.cells (old ++ new ++ Builtin.zeroCells z.cells (k - (sLen + n))) elem)) := rfl
  rw [bind_ok hrow, e1]
  rfl
theorem lenV_rel {v v' : Value} (h : VR u v v') : lenV v' = lenV v := by cases h <;> rfl
theorem sim_append_in {bs : Array Value} {base' : Option Addr} {sCap' : Nat} {x' : Value} (H : Apd P ts as base sLen sCap n x elem i) (H' : Apd P ts bs base' sLen sCap' n x' elem i) (hx : VR u x x')
    (hle : sLen + n ≤ sCap) (hle' : sLen + n ≤ sCap') (hb : (base = none ∧ base' = none) ∨ ∃ a b, base = some a ∧ base' = some b ∧ AR u a b)
    (hr : ∀ u', Ext u u' → VR u' (.slice base (sLen + n) sCap) (.slice base' (sLen + n) sCap')) : SimAt P N u (Builtin.append_ ts t as) (Builtin.append_ ts t bs) VR := by
  obtain ⟨⟨t0, t1, d1, h0, h1, u0, u1, hd⟩, a0, a1, hn, hi⟩ := H
  obtain ⟨_, b0, b1, hn', _⟩ := H'
  unfold Builtin.append_
  simp only [h0, h1, a0, a1, b0, b1]
  refine sim_bind (sim_underlying t0) ?_
  rintro v1 e1 _ _ ⟨rfl, hu0⟩
  rw [u0] at hu0; cases hu0
  dsimp only
  refine sim_bind (sim_typeInfo_size hi) ?_
  rintro v2 e2 _ _ ⟨rfl, rfl⟩
  refine sim_bind (sim_underlying t1) ?_
  rintro v3 e3 _ _ ⟨rfl, hu1⟩
  rw [u1] at hu1; cases hu1
  refine sim_bind (S := fun _ a b => a = false ∧ b = false) (sim_ret ⟨by cases d1 <;> first | rfl | exact absurd hd (by simp), by cases d1 <;> first | rfl | exact absurd hd (by simp)⟩) ?_
  rintro v4 e4 _ _ ⟨rfl, rfl⟩
  simp only [Bool.false_eq_true, if_false, Bool.not_false, if_true]
  have ee := (e1.trans e2).trans (e3.trans e4)
  have hlen : SimAt P N v4 (Builtin.lenOf x) (Builtin.lenOf x') (fun _ a b => a = n ∧ b = n) := by
    have hxe := hx.ext ee
    cases hxe <;> first | exact sim_stuck | (simp only [lenV, Option.some.injEq] at hn; subst hn; exact sim_ret ⟨rfl, rfl⟩)
  refine sim_bind hlen ?_
  rintro v5 e5 _ _ ⟨rfl, rfl⟩
  rw [if_pos hle, if_pos hle']
  have ee5 := ee.trans e5
  refine sim_bind (sim_firstCells (hx.ext ee5) _ _) ?_
  intro v6 e6 cs ds hcd
  rcases hb with ⟨rfl, rfl⟩ | ⟨a, b, rfl, rfl, hab⟩
  · exact sim_ret (hr _ (ee5.trans e6))
  · refine sim_bind (sim_storeCells (((hab.ext ee5).ext e6).add _) 0 (Ext.refl _) (VRs.list hcd)) ?_
    intro v7 e7 _ _ _
    exact sim_ret (hr _ ((ee5.trans e6).trans e7))
theorem AR.uniq {a b c : Addr} (h : AR u a b) (k : AR u a c) : b = c := by
  obtain ⟨x1, x2, x3⟩ := h
  obtain ⟨y1, y2, y3⟩ := k
  have := x1.uniq y1
  cases b; cases c; simp_all
theorem zeros_size (z : Array Value) (k : Nat) : (Builtin.zeroCells z k).size = k * z.size := by simp [Builtin.zeroCells]
/-- a block of the other memory that serves none may turn -/
theorem HR.scratch {h : World} (HH : HR P N u h w) {s : Nat} (hfree : ∀ r, RR u r s → h.heap[r]? = some dead) (o' : Obj) : HR P N u h { w with heap := w.heap.setIfInBounds s o' } := by
  refine ⟨by simpa using HH.base, HH.size, fun r k hr => by simpa using HH.own r k hr, HH.full, HH.inj, fun r k o hr ho => ?_, fun r k n z c e fz hr ho => ?_⟩
  · obtain ⟨o1, h1, h2⟩ := HH.obj r k o hr ho
    simp only [Array.getElem?_setIfInBounds]
    by_cases e : s = k
    · subst e
      rw [hfree r hr] at ho; cases ho
      have := (HH.own _ _ hr).2
      rw [if_pos rfl, if_pos this]; exact ⟨_, rfl, .gone _⟩
    · rw [if_neg e]; exact ⟨o1, h1, h2⟩
  · obtain ⟨h1, c', fz', h2, h3⟩ := HH.room r k n z c e fz hr ho
    simp only [Array.getElem?_setIfInBounds]
    by_cases e1 : s = k
    · subst e1
      rw [hfree r ⟨_, _, hr⟩] at ho; cases ho
    · rw [if_neg e1]; exact ⟨h1, c', fz', h2, h3⟩
theorem sim_cgrow (hz : Fine P) {bs : Array Value} {y x' : Value} (H : Apd P ts as base sLen sCap n x elem i) (b0 : bs[0]? = some y) (hy : VR u (.slice base sLen sCap) y) (b1 : bs[1]? = some x') (hx : VR u x x')
    (hgt : ¬ sLen + n ≤ lowCap sCap) : SimC P N u (cgrow P elem base sLen sCap x n) (Builtin.append_ ts t bs) VR := by
  intro h w HH r h' hc
  unfold cgrow at hc
  rw [H.info] at hc
  simp only at hc
  split at hc
  case isFalse => cases hc
  rename_i hcond
  unfold growOK at hcond
  simp only [Bool.and_eq_true, decide_eq_true_eq] at hcond
  obtain ⟨⟨⟨⟨hneed, hbytes⟩, hsize⟩, hzero⟩, hgive⟩ := hcond
  obtain ⟨z, hzz, hzs⟩ : ∃ z, i.zero = some z ∧ z.cells.size = i.size := by
    cases hzi : i.zero with
    | none => rw [hzi] at hzero; cases hzero
    | some z => rw [hzi] at hzero; exact ⟨z, rfl, by simpa using hzero⟩
  split at hc
  case h_2 => cases hc
  rename_i old h1 hold
  split at hc
  case h_2 => cases hc
  rename_i new h2 hnew
  obtain ⟨rfl, cs, ds, hcs, hrunO, hvO, hcellO⟩ := ro_firstCells HH hy i.size sLen hold
  cases hcs
  obtain ⟨rfl, cs2, ds2, hcs2, hrunN, hvN, _⟩ := ro_firstCells HH hx i.size n hnew
  cases hcs2
  split at hc
  case isFalse => cases hc
  rename_i hone
  simp only [Bool.and_eq_true, beq_iff_eq] at hone
  obtain ⟨⟨hone, hszN⟩, hszO⟩ := hone
  simp only [Option.some.injEq, Prod.mk.injEq] at hc
  obtain ⟨rfl, rfl⟩ := hc
  have hone' : ∀ v ∈ ds2.toList, oneCell v = true := by
    intro v hv
    obtain ⟨j, hj⟩ := List.getElem?_of_mem hv
    have hj' : ds2[j]? = some v := by simpa using hj
    have hlt : j < new.size := by rw [hvN.1]; exact (Array.getElem?_eq_some_iff.1 hj').1
    have ha : new[j]? = some new[j] := Array.getElem?_eq_getElem hlt
    rw [(hvN.2 j _ _ ha hj').oneCell_eq]
    rw [List.all_eq_true] at hone
    exact hone _ (by simp)
  -- what the other run does where it makes a new row
  have fresh : ∀ (base' : Option Addr) (sCap' : Nat), y = .slice base' sLen sCap' → ¬ sLen + n ≤ sCap' → ∀ hk : World, HR P N u hk w →
      ∃ u' w', Ext u u' ∧ HR P N u' (hk.alloc (.cells (old ++ new) elem)) w' ∧ Keeps N w w' ∧
        Fits P (Builtin.append_ ts t bs) w w' u' VR (.ok (.slice (some ⟨hk.heap.size, 0, none⟩) (sLen + n) (BIG + (sLen + n)))) := by
    rintro base' sCap' rfl hno hk HK
    have H' : Apd P ts bs base' sLen sCap' n x' elem i := ⟨H.ex, b0, b1, by rw [lenV_rel hx]; exact H.n, H.info⟩
    obtain ⟨k, W, e1, e2, e3, e4, hkn, hrun⟩ := run_append_out (t := t) H' hno (by simpa using hneed) (by simpa using hbytes) hzz hrunO hrunN
    have HW : HR P N u hk W := HK.heap rfl e1
    have hcells : P.cellsOf elem = i.size := by unfold Program.cellsOf; rw [H.info]; rfl
    have hsz : (ds ++ ds2 ++ Builtin.zeroCells z.cells (k - (sLen + n))).size = k * i.size := by
      simp only [Array.size_append, zeros_size, hzs, ← hvO.1, ← hvN.1, hszO, hszN]
      rw [← Nat.add_mul, ← Nat.add_mul]; congr 1; omega
    have HA := HW.alloc (o := .cells (old ++ new) elem) (o' := .cells (ds ++ ds2 ++ Builtin.zeroCells z.cells (k - (sLen + n))) elem) (n := k * i.size) (z := i.size)
      (by
        refine .cells (by simp [hvO.1, hvN.1]) (fun j a b ha hb => ?_) (.inl (Nat.le_refl _))
        have hja := (Array.getElem?_eq_some_iff.1 ha).1
        rw [Array.getElem?_append, if_pos (by simp [← hvO.1, ← hvN.1]; simpa using hja)] at hb
        exact ((hvO.append hvN).2 j a b ha hb).ext (Ext.snoc _ _))
      (fun c e fz he => by cases he; exact ⟨hcells.symm, _, _, rfl, Nat.le_of_eq hsz.symm⟩)
    refine ⟨_, _, Ext.snoc _ _, HA, ?_, _, hrun, ?_⟩
    · refine ⟨e2, e3, e4, by rw [size_alloc, e1]; omega, fun j hj => ?_⟩
      have := HH.base j hj
      rw [heap_alloc_at, e1, if_neg (by omega)]
    · refine .sliceG _ _ _ ⟨⟨k * i.size, i.size, ?_⟩, rfl, rfl⟩ (Nat.le_refl _) hkn ⟨k * i.size, i.size, ?_, by simp⟩
      · rw [ent_some, HK.size, e1]; simp
      · rw [ent_some, HK.size, e1]; simp
  generalize hv0 : Value.slice base sLen sCap = v0 at hy
  cases hy with
  | sliceNil k c =>
    cases hv0
    have hb : sCap < BIG := by
      rcases Nat.lt_or_ge sCap BIG with hb | hb
      · exact hb
      · simp [Nat.not_lt.2 hb] at hgive
    simp only [hb, if_true]
    exact fresh none sCap rfl (by simpa [lowCap, hb] using hgt) _ HH
  | @slice a b k c hab hb =>
    cases hv0
    simp only [hb, if_true]
    exact fresh (some b) sCap rfl (by simpa [lowCap, hb] using hgt) _ HH
  | @sliceG a b k c c' hab hkc hcc hro =>
    cases hv0
    have hnb : ¬ BIG + c < BIG := by omega
    have hlow : lowCap (BIG + c) = c := by unfold lowCap; rw [if_neg hnb]; omega
    rw [hlow] at hgt
    simp only [hnb, if_false]
    simp only [hnb, decide_false, Bool.false_or, Bool.and_eq_true, beq_iff_eq] at hgive
    obtain ⟨⟨hoff, hspot⟩, hblk⟩ := hgive
    have hspot' : a.spot = none := by simpa using hspot
    have hboff : b.off = 0 := by rw [hab.2.1, hoff]
    have hbspot : b.spot = none := by rw [hab.2.2, hspot']
    by_cases hin : sLen + n ≤ c'
    · -- in place
      obtain ⟨c0, fz0, hc0⟩ : ∃ c0 fz0, h2.heap[a.block]? = some (.cells c0 elem fz0) := by
        split at hblk
        · rename_i c0 e0 fz0 hx0; exact ⟨c0, fz0, by rw [hx0]; rw [beq_iff_eq.1 hblk]⟩
        · cases hblk
      obtain ⟨nn, zz, hu, hroom⟩ := hro
      obtain ⟨hzz', C, fz', hC, hnn⟩ := HH.room _ _ _ _ _ _ _ hu hc0
      have hcells : P.cellsOf elem = i.size := by unfold Program.cellsOf; rw [H.info]; rfl
      have hzi : zz = i.size := by rw [hzz', hcells]
      subst hzi
      have hunf : fz'.2 ≤ fz'.1 ∨ C.size ≤ fz'.1 := by
        obtain ⟨o', ho', hor⟩ := HH.obj _ _ _ ⟨_, _, hu⟩ hc0
        rw [hC] at ho'; cases ho'
        generalize hgo : Obj.cells c0 elem fz0 = go at hor
        cases hor with
        | cells h1 h2 h3 => exact h3
        | _ => cases hgo
      have H' : Apd P ts bs (some b) sLen c' n x' elem i := ⟨H.ex, b0, b1, by rw [lenV_rel hx]; exact H.n, H.info⟩
      have hsz2 : ds2.size = n * i.size := by rw [← hvN.1, hszN]
      have hfit : sLen * i.size + n * i.size ≤ C.size := by
        have : (sLen + n) * i.size ≤ c' * i.size := Nat.mul_le_mul_right _ hin
        rw [Nat.add_mul] at this
        omega
      have hab2 : (b.add (sLen * i.size)).block = b.block ∧ (b.add (sLen * i.size)).off = sLen * i.size ∧ (b.add (sLen * i.size)).spot = none := by
        unfold Addr.add; split
        · rename_i h0; exact ⟨rfl, by rw [hboff, h0], hbspot⟩
        · exact ⟨rfl, by simp [hboff], rfl⟩
      have hst := run_storeCells (P := P) (b := b.add (sLen * i.size)) (e := elem) (fz := fz') hab2.2.2 ds2.toList 0 w C (by rw [hab2.1]; exact hC) hunf hone' (by rw [hab2.2.1]; simp [hsz2]; omega)
      rw [hab2.1, hab2.2.1] at hst
      simp only [Nat.add_zero] at hst
      have hrun := run_append_in (t := t) H' hin (hrunN w rfl) hst
      have hfree : ∀ r, RR u r b.block → ({ h2 with heap := h2.heap.setIfInBounds a.block dead } : World).heap[r]? = some dead := by
        intro r hr
        simp only [Array.getElem?_setIfInBounds]
        by_cases er : a.block = r
        · subst er
          have := (Array.getElem?_eq_some_iff.1 hc0).1
          rw [if_pos rfl, if_pos this]
        · rw [if_neg er]
          by_cases hdd : h2.heap[r]? = some dead
          · exact hdd
          · exact absurd (HH.inj a.block r b.block ⟨_, _, hu⟩ hr (by rw [hc0]; simp [dead]) hdd) er
      have hblt := (HH.own _ _ ⟨_, _, hu⟩)
      have HK := (HH.kill a.block).scratch hfree (.cells (overCells C (sLen * i.size) ds2.toList) elem fz')
      have hnewblk : ({ w with heap := w.heap.setIfInBounds b.block (.cells (overCells C (sLen * i.size) ds2.toList) elem fz') } : World).heap[b.block]? = some (.cells (overCells C (sLen * i.size) ds2.toList) elem fz') := by
        simp [hblt.2]
      have HA := HK.adopt (o := .cells (old ++ new) elem) (t := b.block) (n := nn) (z := i.size) hblt.1 (by simpa using hblt.2) hfree
        ⟨_, hnewblk, by
          refine .cells (by simp [overCells_size, hszO, hszN]; omega) (fun j p q hp hq => ?_) (by simpa [overCells_size] using hunf)
          rw [overCells_get _ _ _ _ (by simp [hsz2]; omega)] at hq
          have hjlt := (Array.getElem?_eq_some_iff.1 hp).1
          simp only [Array.size_append, hszO, hszN] at hjlt
          rw [Array.getElem?_append, hszO] at hp
          by_cases hj : j < sLen * i.size
          · rw [if_pos hj] at hp hq
            have hcj := (hcellO a b rfl hab).1 j hj
            have hcell : w.cell? (b.add j) = C[j]? := by
              have : b.add j = ⟨b.block, j, none⟩ := by
                obtain ⟨bb, bo, bs'⟩ := b
                simp only at hboff hbspot
                subst hboff; subst hbspot
                unfold Addr.add; split
                · rename_i h0; subst h0; rfl
                · rw [Nat.zero_add]
              rw [this]; unfold World.cell?; rw [hC]; simp
            rw [hcell, hq] at hcj
            exact (hvO.2 j p q hp hcj.symm).ext (Ext.snoc _ _)
          · rw [if_neg hj] at hp hq
            rw [if_pos (by simp [hsz2]; omega)] at hq
            exact (hvN.2 _ p q hp (by simpa using hq)).ext (Ext.snoc _ _)⟩
        (fun c e fz he => by cases he; exact ⟨hcells.symm, _, _, hnewblk, by rw [overCells_size]; exact hnn⟩)
      refine ⟨_, _, Ext.snoc _ _, HA, ?_, _, hrun, ?_⟩
      · refine ⟨rfl, rfl, rfl, by show w.heap.size ≤ (w.heap.setIfInBounds _ _).size; rw [Array.size_setIfInBounds]; exact Nat.le_refl _, fun j hj => ?_⟩
        show (w.heap.setIfInBounds _ _)[j]? = _
        rw [Array.getElem?_setIfInBounds, if_neg (fun e => hblt.1 (by rw [e]; exact hj))]
      · have hix : ent (u ++ [some (b.block, nn, i.size)]) h2.heap.size = some (b.block, nn, i.size) := by rw [ent_some, HH.size]; simp
        have hix2 : ent (u ++ [some (b.block, nn, i.size)]) (h2.heap.setIfInBounds a.block dead).size = some (b.block, nn, i.size) := by rw [Array.size_setIfInBounds]; exact hix
        exact .sliceG _ _ _ ⟨⟨nn, i.size, hix2⟩, hboff, hbspot⟩ (Nat.le_refl _) hin ⟨nn, i.size, hix2, hroom⟩
    · exact fresh (some b) c' rfl hin _ (HH.kill _)
  | _ => cases hv0
/-- append of zeros to nil (the second argument is their number) -/
theorem run_append_zero {t0 t1 : TypeId} {kd : IntKind} {m : Int} {z : Value} (h0 : ts[0]? = some t0) (h1 : ts[1]? = some t1) (u0 : P.underlying t0 = some (.slice elem)) (u1 : P.underlying t1 = some (.int kd)) (a0 : as[0]? = some (.slice none 0 0)) (a1 : as[1]? = some (.int .i64 m))
    (hi : P.info? elem = some i) (hz : i.zero = some z) (hm0 : 0 < m) (hm : m ≤ 1048576) (hb : i.bytes ≤ 65536) (hs : 0 < i.size) :
    ∃ (c : Nat) (W : World), W.heap = w.heap ∧ W.os = w.os ∧ W.tape = w.tape ∧ W.output = w.output ∧ m.toNat ≤ c ∧
      (Builtin.append_ ts t as).run P w = .ok (.slice (some ⟨w.heap.size, 0, none⟩) m.toNat c) (W.alloc (.cells (Builtin.zeroCells z.cells m.toNat ++ Builtin.zeroCells z.cells (c - m.toNat)) elem)) := by
  refine ⟨grownCap w m.toNat 0 elem, w.drew, rfl, rfl, rfl, rfl, ?_, ?_⟩
  · exact grownCap_ge w m.toNat 0 elem
  have hw : IntKind.i64.wrap m = m := by rw [IntKind.wrap_i64]; omega
  have hmb : ¬ (m * (i.bytes : Int) > 2 ^ 48) := by
    have h1 : m * (i.bytes : Int) ≤ 1048576 * 65536 := Int.mul_le_mul hm (by omega) (by omega) (by omega)
    omega
  have hcap : Builtin.nextslicecap m.toNat 0 * i.bytes ≤ 2 ^ 48 := by
    have h1 := grow_le m.toNat 0 (by omega)
    have h2 : Builtin.nextslicecap m.toNat 0 * i.bytes ≤ (2 * 1048576 + 1024) * 65536 := Nat.mul_le_mul (by omega) hb
    omega
  have hms : ¬ (m.toNat * i.size = 0) := by
    have := Nat.mul_pos (show 0 < m.toNat by omega) hs
    omega
  have hold : ∀ W : World, (Builtin.firstCells i.size 0 (.slice none 0 0)).run P W = .ok #[] W := fun W => by simp [Builtin.firstCells]
  have q1 : ¬ (m < 0) := by omega
  have q2 : ¬ (281474976710656 < m * (i.bytes : Int)) := by simpa using hmb
  have q3 : ¬ (m ≤ 0) := by omega
  have q4 : ¬ (9223372036854775807 < m) := by omega
  have q5 : ¬ (281474976710656 < Builtin.nextslicecap m.toNat 0 * i.bytes) := by simpa using hcap
  have q6 : ¬ m.toNat = 0 := by omega
  have q7 : ¬ i.size = 0 := by omega
  have q8 : ((m.toNat : Nat) : Int) = m := by omega
  have q9 : max m 0 = m := by omega
  have hask : ∀ n W', (askRoom n).run P W' = .ok () W' := run_room
  simp [Builtin.append_, h0, h1, a0, a1, run_underlying u0, run_underlying u1, sizeOf, typeInfo, zeroValue, hi, hz, asInt, hw, q1, q2, q3, q4, q5, q6, q7, q8, q9, hask, hold, newRow, asIntOf, Question.forced, grownCap]
  intro h
  exact absurd h hms
def czeros (P : Program) (ts : Array TypeId) (as : Array Value) (h : World) : Option (Except Value Value × World) :=
  match (ts[0]? : Option TypeId), (ts[1]? : Option TypeId), (as[0]? : Option Value), (as[1]? : Option Value) with
  | some t0, some t1, some (.slice none 0 0), some (.int .i64 m) =>
    match P.underlying t0, P.underlying t1 with
    | some (.slice elem), some (.int _) =>
      match P.info? elem with
      | some i => (match i.zero with
        | some z => if 0 < m ∧ m ≤ 1048576 ∧ i.bytes ≤ 65536 ∧ 0 < i.size ∧ z.cells.size = i.size ∧ zok P elem = true then
            some (.ok (.slice (some ⟨h.heap.size, 0, none⟩) m.toNat (BIG + m.toNat)), h.alloc (.cells (Builtin.zeroCells z.cells m.toNat) elem)) else none
        | none => none)
      | none => none
    | _, _ => none
  | _, _, _, _ => none
theorem sim_czeros {bs : Array Value} (ha : VRs u as bs) : SimC P N u (czeros P ts as) (Builtin.append_ ts t bs) VR := by
  intro h w HH r h' hc
  unfold czeros at hc
  split at hc
  case h_2 => cases hc
  rename_i t0 t1 m h0 h1 a0 a1
  split at hc
  case h_2 => cases hc
  rename_i elem kd u0 u1
  split at hc
  case h_2 => cases hc
  rename_i i hi
  split at hc
  case h_2 => cases hc
  rename_i z hz
  split at hc
  case isFalse => cases hc
  rename_i hcond
  obtain ⟨hm0, hm, hb, hs, hzs, hzk⟩ := hcond
  simp only [Option.some.injEq, Prod.mk.injEq] at hc
  obtain ⟨rfl, rfl⟩ := hc
  obtain ⟨y, b0, hy⟩ := ha.get a0
  obtain ⟨x', b1, hx⟩ := ha.get a1
  have hy' : y = .slice none 0 0 := hy.eq_of_closed (d := 1) (by rfl)
  have hx' : x' = .int .i64 m := hx.eq_of_closed (d := 1) (by rfl)
  subst hy'
  subst hx'
  obtain ⟨c, W, e1, e2, e3, e4, hkn, hrun⟩ := run_append_zero (t := t) (w := w) h0 h1 u0 u1 b0 b1 hi hz hm0 hm hb hs
  have HW : HR P N u h W := HH.heap rfl e1
  have hcells : P.cellsOf elem = i.size := by unfold Program.cellsOf; rw [hi]; rfl
  have hclosed : closed 9 z = true := by
    unfold zok at hzk
    rw [hi] at hzk
    simp only [hz] at hzk
    exact hzk
  have hzr : VRs u (Builtin.zeroCells z.cells m.toNat) (Builtin.zeroCells z.cells m.toNat) := (VRs.cells (VR.of_closed (u := u) hclosed)).cycle _
  have hsz : (Builtin.zeroCells z.cells m.toNat ++ Builtin.zeroCells z.cells (c - m.toNat)).size = c * i.size := by
    simp only [Array.size_append, zeros_size, hzs]
    rw [← Nat.add_mul]; congr 1; omega
  have HA := HW.alloc (o := .cells (Builtin.zeroCells z.cells m.toNat) elem) (o' := .cells (Builtin.zeroCells z.cells m.toNat ++ Builtin.zeroCells z.cells (c - m.toNat)) elem) (n := c * i.size) (z := i.size)
    (by
      refine .cells (by simp) (fun j a b ha hb => ?_) (.inl (Nat.le_refl _))
      have hja := (Array.getElem?_eq_some_iff.1 ha).1
      rw [Array.getElem?_append, if_pos hja] at hb
      exact (hzr.2 j a b ha hb).ext (Ext.snoc _ _))
    (fun c e fz he => by cases he; exact ⟨hcells.symm, _, _, rfl, Nat.le_of_eq hsz.symm⟩)
  refine ⟨_, _, Ext.snoc _ _, HA, ?_, _, hrun, ?_⟩
  · refine ⟨e2, e3, e4, by rw [size_alloc, e1]; omega, fun j hj => ?_⟩
    have := HH.base j hj
    rw [heap_alloc_at, e1, if_neg (by omega)]
  · refine .sliceG _ _ _ ⟨⟨c * i.size, i.size, ?_⟩, rfl, rfl⟩ (Nat.le_refl _) hkn ⟨c * i.size, i.size, ?_, by simp⟩
    · rw [ent_some, HH.size, e1]; simp
    · rw [ent_some, HH.size, e1]; simp
end
end Go.Proofs.Simul
/-
  A canonical run serves every run. Part I: slices of what append made, texts as bytes, bytes as texts.
-/
namespace Go.Proofs.Simul
open Go Go.RowKit

def natOf : Value → Option Nat
  | .int _ k => if 0 ≤ k then some k.toNat else none
  | _ => none
def sliceOK (P : Program) (a : Addr) (i : TypeInfo) (l k m c : Nat) (h : World) : Bool :=
  l ≤ k && k ≤ m && m ≤ c && (match h.heap[a.block]? with | some (.cells _ e _) => P.cellsOf e == i.size | _ => false)
/-- a slice of a slice whose capacity is not known, canonical -/
def csliceG (P : Program) (t : TypeId) (a : Addr) (n c : Nat) (lo hi mx : Option Value) (h : World) : Option (Except Value Value × World) :=
  match P.underlying t with
  | some (.slice elem) =>
    match P.info? elem, (match lo with | none => some 0 | some v => natOf v), (match hi with | none => (if mx.isNone then some n else none) | some v => natOf v), (match mx with | none => some c | some v => natOf v) with
    | some i, some l, some k, some m =>
      if sliceOK P a i l k m c h then
        if mx.isNone then
          if l == 0 || decide (l < c) then some (.ok (.slice (some (a.add (l * i.size))) (k - l) (BIG + (c - l))), h) else none
        else if m < BIG then some (.ok (.slice (some (if m = l then a else a.add (l * i.size))) (k - l) (m - l)), h) else none
      else none
    | _, _, _, _ => none
  | _ => none
section
variable {P : Program} {N : Nat → Prop} {u : Ren}
theorem natOf_rel {v v' : Value} {k : Nat} (hv : VR u v v') (hk : natOf v = some k) : ∃ kd, v = .int kd (k : Int) ∧ v' = .int kd (k : Int) := by
  cases hv with
  | int kd n =>
    simp only [natOf] at hk
    split at hk
    · simp only [Option.some.injEq] at hk; subst hk; exact ⟨kd, by simp; omega, by simp; omega⟩
    · cases hk
  | _ => simp [natOf] at hk
theorem run_sliceBound {kd : IntKind} {k y : Nat} {code : BoundsCode} (h : k ≤ y) (w : World) : (Instr.sliceBound (.int kd (k : Int)) y code).run P w = .ok k w := by
  unfold Instr.sliceBound
  rw [bind_ok (w1 := w) (a := (kd, (k : Int))) rfl]
  simp only
  rw [if_pos ⟨by omega, by omega⟩]
  rfl
/-- the operand of a bound: it lacks, or it is a number -/
def Bd (x : Option Value) (k : Nat) (dflt : Nat) : Prop := (x = none ∧ k = dflt) ∨ ∃ kd, x = some (.int kd (k : Int))
theorem run_sliceBounds {lo hi mx : Option Value} {len cap l k m : Nat} (hl : Bd lo l 0) (hh : Bd hi k len) (hm : Bd mx m cap) (hhm : hi = none → mx = none) (h1 : l ≤ k) (h2 : k ≤ m) (h3 : m ≤ cap) (w : World) :
    (Instr.sliceBounds true len cap lo hi mx).run P w = .ok (l, k, m) w := by
  unfold Instr.sliceBounds
  extract_lets j1
  have hj : (j1 m).run P w = .ok (l, k, m) w := by
    have hk : ∀ (code : BoundsCode), (match (generalizing := false) lo with
        | some v => do let __x ← Instr.sliceBound v k code; pure (__x, k, m)
        | none => do let __x ← pure 0; pure (__x, k, m) : Sem (Nat × Nat × Nat)).run P w = .ok (l, k, m) w := by
      intro code
      rcases hl with ⟨rfl, rfl⟩ | ⟨kd, rfl⟩
      · rfl
      · simp only; rw [bind_ok (run_sliceBound h1 w)]; rfl
    simp only [j1]
    rcases hh with ⟨rfl, rfl⟩ | ⟨kd, rfl⟩
    · have := hhm rfl
      subst this
      exact hk _
    · cases mx with
      | none => simp only; rw [bind_ok (run_sliceBound h2 w)]; exact hk _
      | some v => simp only; rw [bind_ok (run_sliceBound h2 w)]; exact hk _
  rcases hm with ⟨rfl, rfl⟩ | ⟨kd, rfl⟩
  · exact hj
  · simp only; rw [bind_ok (run_sliceBound h3 w)]; exact hj
/-- an operand that may lack, both sides -/
def VO (u : Ren) : Option Value → Option Value → Prop
  | none, none => True
  | some v, some v' => VR u v v'
  | _, _ => False
theorem bd_rel {lo lo' : Option Value} {l d : Nat} (h : VO u lo lo') (hl : (match (generalizing := false) lo with | none => some d | some v => natOf v) = some l) : Bd lo' l d := by
  cases lo with
  | none => cases lo' with
    | none => simp at hl; exact .inl ⟨rfl, hl.symm⟩
    | some v => exact h.elim
  | some v => cases lo' with
    | none => exact h.elim
    | some v' => obtain ⟨kd, _, h2⟩ := natOf_rel h hl; exact .inr ⟨kd, by rw [h2]⟩
theorem sim_sliceG {a : Addr} {n c : Nat} {v' : Value} (hv : VR u (.slice (some a) n (BIG + c)) v') {lo lo' hi hi' mx mx' : Option Value} (hl : VO u lo lo') (hh : VO u hi hi') (hm : VO u mx mx') (t : TypeId) :
    SimC P N u (csliceG P t a n c lo hi mx) (Instr.sliceAt t v' lo' hi' mx') VR := by
  intro h w HH r h' hc
  unfold csliceG at hc
  split at hc
  case h_2 => cases hc
  rename_i elem hu
  split at hc
  case h_2 => cases hc
  rename_i i l k m hi0 hl0 hk0 hm0
  split at hc
  case isFalse => cases hc
  rename_i hcond
  simp only [sliceOK, Bool.and_eq_true, decide_eq_true_eq] at hcond
  obtain ⟨⟨⟨h1, h2⟩, h3⟩, h4⟩ := hcond
  generalize hv0 : Value.slice (some a) n (BIG + c) = v0 at hv
  cases hv with
  | @slice a1 b k1 c1 hab hb =>
    cases hv0; omega
  | @sliceG a1 b k1 c1 c' hab hkc hcc hro =>
    have hc1 : c1 = c := by injection hv0; omega
    have ha1 : a1 = a := by injection hv0 with e; injection e with e; exact e.symm
    have hk1 : k1 = n := by injection hv0; omega
    subst hc1; subst ha1; subst hk1
    have hbl := bd_rel hl hl0
    have hbm : Bd mx' m c' ∨ (mx = none ∧ m = c1) := by
      cases mx with
      | none => simp at hm0; exact .inr ⟨rfl, hm0.symm⟩
      | some v => cases mx' with
        | none => exact hm.elim
        | some v' => obtain ⟨kd, _, h2⟩ := natOf_rel hm hm0; exact .inl (.inr ⟨kd, by rw [h2]⟩)
    have hbh : Bd hi' k k1 ∧ (hi' = none → mx' = none) := by
      cases hi with
      | none =>
        cases hi' with
        | some v => exact hh.elim
        | none =>
          simp only at hk0
          split at hk0
          · rename_i hmx
            simp at hk0
            refine ⟨.inl ⟨rfl, hk0.symm⟩, fun _ => ?_⟩
            cases mx with
            | none => cases mx' with
              | none => rfl
              | some v => exact hm.elim
            | some v => simp at hmx
          · cases hk0
      | some v => cases hi' with
        | none => exact hh.elim
        | some v' => obtain ⟨kd, _, h2⟩ := natOf_rel hh hk0; exact ⟨.inr ⟨kd, by rw [h2]⟩, fun e => by cases e⟩
    have fin : ∀ mm : Nat, Bd mx' mm c' → k ≤ mm → mm ≤ c' → (Instr.sliceAt t (.slice (some b) k1 c') lo' hi' mx').run P w = .ok (.slice (some (if mm = l then b else b.add (l * i.size))) (k - l) (mm - l)) w := by
      intro mm hbm2 hk2 hm2
      unfold Instr.sliceAt
      rw [bind_ok (run_underlying hu w)]
      dsimp only
      unfold Instr.slice
      rw [bind_ok (run_underlying hu w)]
      dsimp only
      rw [bind_ok (run_sliceBounds hbl hbh.1 hbm2 hbh.2 h1 hk2 hm2 w)]
      dsimp only
      rw [bind_ok (run_size hi0 w)]
      simp only [Option.map_some]
      split <;> rfl
    obtain ⟨nn, zz, hun, hroom⟩ := hro
    have hzi : zz = i.size := by
      split at h4
      · rename_i c0 e0 fz0 hx0
        rw [(HH.room _ _ _ _ _ _ _ hun hx0).1]; exact beq_iff_eq.1 h4
      · cases h4
    subst hzi
    split at hc
    · rename_i hmx
      have hmxn : mx = none := by simpa using hmx
      have hmx' : mx' = none := by
        subst hmxn
        cases mx' with
        | none => rfl
        | some v => exact hm.elim
      have hmc : m = c1 := by subst hmxn; simpa using hm0.symm
      split at hc
      case isFalse => cases hc
      rename_i hl2
      simp only [Bool.or_eq_true, beq_iff_eq, decide_eq_true_eq] at hl2
      simp only [Option.some.injEq, Prod.mk.injEq] at hc
      obtain ⟨rfl, rfl⟩ := hc
      refine ⟨u, w, Ext.refl u, HH, Keeps.refl _ _, _, fin c' (.inl ⟨hmx', rfl⟩) (by omega) (Nat.le_refl _), ?_⟩
      have hb2 : (if c' = l then b else b.add (l * i.size)) = b.add (l * i.size) := by
        split
        · rcases hl2 with h0 | h0
          · subst h0; simp [Addr.add]
          · omega
        · rfl
      rw [hb2]
      refine .sliceG _ _ _ (hab.add _) (by omega) (by omega) ⟨nn, i.size, ?_, ?_⟩
      · have e1 : ∀ (x : Addr) (j : Nat), (x.add j).block = x.block := fun x j => by unfold Addr.add; split <;> rfl
        rw [e1, e1]; exact hun
      · have e2 : (b.add (l * i.size)).off = b.off + l * i.size := by unfold Addr.add; split <;> simp_all
        rw [e2]
        have : l * i.size + (c' - l) * i.size = c' * i.size := by rw [← Nat.add_mul]; congr 1; omega
        omega
    · rename_i hmx
      split at hc
      case isFalse => cases hc
      rename_i hmb
      simp only [Option.some.injEq, Prod.mk.injEq] at hc
      obtain ⟨rfl, rfl⟩ := hc
      rcases hbm with hbm | ⟨h0, _⟩
      · exact ⟨u, w, Ext.refl u, HH, Keeps.refl _ _, _, fin m hbm h2 (by omega), .slice _ _ (hab.at_ _ _) (by omega)⟩
      · subst h0; simp at hmx
  | _ => cases hv0
/-- a text as bytes, canonical -/
def cbytes (P : Program) (e : TypeId) (s : ByteArray) (h : World) : Option (Except Value Value × World) :=
  if P.cellsOf e == 1 then some (.ok (.slice (some ⟨h.heap.size, 0, none⟩) s.size (BIG + s.size)), h.alloc (.cells (s.data.map fun b => .int .u8 b.toNat) e)) else none
theorem sim_cbytes (e : TypeId) (s : ByteArray) : SimC P N u (cbytes P e s) (Conv.stringToBytes e s) VR := by
  intro h w HH r h' hc
  unfold cbytes at hc
  split at hc
  case isFalse => cases hc
  rename_i hz
  have hz1 : P.cellsOf e = 1 := beq_iff_eq.1 hz
  simp only [Option.some.injEq, Prod.mk.injEq] at hc
  obtain ⟨rfl, rfl⟩ := hc
  obtain ⟨k, W, e1, e2, e3, e4, hk, hch⟩ : ∃ (k : Nat) (W : World), W.heap = w.heap ∧ W.os = w.os ∧ W.tape = w.tape ∧ W.output = w.output ∧ s.size ≤ k ∧ (choose (.appendCap s.size 0 e)).run P w = .ok k W := by
    refine ⟨(Question.appendCap s.size 0 e).cut (w.tape w.drawn (.appendCap s.size 0 e)), { w with drawn := w.drawn + 1 }, rfl, rfl, rfl, rfl, ?_, ?_⟩
    · simp only [Question.cut]; omega
    · simp [choose, Sem.run, Question.forced]
  let row : Array Value := (s.data.map fun b => Value.int .u8 b.toNat) ++ Array.replicate (k - s.size) (.int .u8 0)
  have hrowsz : row.size = k := by simp [row]; have : s.data.size = s.size := rfl; omega
  have hnew : (newRow e row).run P W = .ok ⟨W.heap.size, 0, none⟩ (W.alloc (.cells row e)) := rfl
  have hmark : (markStringish ⟨W.heap.size, 0, none⟩).run P (W.alloc (.cells row e)) = .ok () (W.alloc (.cells row e (row.size, row.size + 1))) := by
    have hsh : (shape W.heap.size).run P (W.alloc (.cells row e)) = .ok (some (e, row.size)) (W.alloc (.cells row e)) := by
      show Result.ok ((W.alloc (.cells row e)).shape? W.heap.size) _ = _
      have : (W.alloc (.cells row e)).shape? W.heap.size = some (e, row.size) := by
        unfold World.shape?; rw [heap_alloc_at, if_pos rfl]
      rw [this]
    unfold markStringish
    rw [bind_ok hsh]
    show Result.ok () ((W.alloc (.cells row e)).freeze _ 1) = _
    congr 1
    unfold World.freeze World.alloc
    rw [if_neg Nat.one_ne_zero]
    simp only
    congr 1
    apply Array.ext_getElem?
    intro j
    rw [Array.getElem?_modify, Array.getElem?_push, Array.getElem?_push]
    by_cases hj : j = W.heap.size
    · subst hj; simp
    · rw [if_neg hj, if_neg (fun e => hj e.symm), if_neg hj]
  have hrun : (Conv.stringToBytes e s).run P w = .ok (.slice (some ⟨W.heap.size, 0, none⟩) s.size k) (W.alloc (.cells row e (row.size, row.size + 1))) := by
    unfold Conv.stringToBytes
    rw [bind_ok hch]
    dsimp only
    rw [bind_ok hnew, bind_ok hmark]
    rfl
  have HW : HR P N u h W := HH.heap rfl e1
  have HA := HW.alloc (o := .cells (s.data.map fun b => .int .u8 b.toNat) e) (o' := .cells row e (row.size, row.size + 1)) (n := k) (z := 1)
    (by
      refine .cells (by rw [hrowsz]; simpa using hk) (fun j a b ha hb => ?_) (.inr (Nat.le_refl _))
      have hja := (Array.getElem?_eq_some_iff.1 ha).1
      simp only [row] at hb
      rw [Array.getElem?_append, if_pos hja, ha] at hb
      cases hb
      rw [Array.getElem?_map] at ha
      cases hx : s.data[j]? with
      | none => rw [hx] at ha; cases ha
      | some x => rw [hx] at ha; cases ha; exact .int _ _)
    (fun c e' fz he => by cases he; exact ⟨hz1.symm, _, _, rfl, Nat.le_of_eq hrowsz.symm⟩)
  have hix : ent (u ++ [some (W.heap.size, k, 1)]) h.heap.size = some (W.heap.size, k, 1) := by rw [ent_some, HH.size]; simp
  refine ⟨_, _, Ext.snoc _ _, HA, ?_, _, hrun, .sliceG _ _ _ ⟨⟨k, 1, hix⟩, rfl, rfl⟩ (Nat.le_refl _) hk ⟨k, 1, hix, by simp⟩⟩
  refine ⟨e2, e3, e4, by rw [size_alloc, e1]; omega, fun j hj => ?_⟩
  have := HH.base j hj
  rw [heap_alloc_at, e1, if_neg (by omega)]
theorem sim_forBytes : ∀ {l m : List Value} {u : Ren}, VL u l m → ∀ s : ByteArray, SimAt P N u
    (forIn l s fun (c : Value) (s : ByteArray) => match c with | .int .u8 n => pure (ForInStep.yield (s.push (UInt8.ofNat n.toNat))) | _ => (do stuck "bytesToString: byte expected"; pure (ForInStep.yield s) : Sem (ForInStep ByteArray)))
    (forIn m s fun (c : Value) (s : ByteArray) => match c with | .int .u8 n => pure (ForInStep.yield (s.push (UInt8.ofNat n.toNat))) | _ => (do stuck "bytesToString: byte expected"; pure (ForInStep.yield s) : Sem (ForInStep ByteArray))) (fun _ a b => a = b)
  | _, _, u, .nil, s => sim_ret rfl
  | _, _, u, .cons (a := a) (b := b) (l := l) (m := m) hv hs, s => by
    rw [List.forIn_cons, List.forIn_cons]
    refine sim_bind (S := fun _ x y => x = y ∧ ∃ s', x = ForInStep.yield s') ?_ ?_
    · have hst : ∀ t : Sem (ForInStep ByteArray), SimAt P N u (do stuck "bytesToString: byte expected"; pure (ForInStep.yield s) : Sem (ForInStep ByteArray)) t (fun _ x y => x = y ∧ ∃ s', x = ForInStep.yield s') := fun t => sim_none fun c => by rw [crun_bind]; rfl
      cases hv with
      | int k n => cases k <;> first | exact sim_ret ⟨rfl, _, rfl⟩ | exact hst _
      | _ => exact hst _
    · rintro u1 e1 _ _ ⟨rfl, s', rfl⟩
      exact sim_forBytes (hs.ext e1) s'
theorem sim_bytesToString {v v' : Value} (hv : VR u v v') : SimAt P N u (Conv.bytesToString v) (Conv.bytesToString v') VR := by
  have ld : ∀ (a b : Addr) (n c c' : Nat), AR u a b → SimAt P N u (Conv.bytesToString (.slice (some a) n c)) (Conv.bytesToString (.slice (some b) n c')) VR := by
    intro a b n c c' hab
    unfold Conv.bytesToString
    simp only
    refine sim_bind (sim_loadCells hab n) ?_
    intro u1 e1 cs ds hcd
    rw [← Array.forIn_toList, ← Array.forIn_toList]
    refine sim_bind (sim_forBytes (VRs.list hcd) _) ?_
    rintro u2 e2 s _ rfl
    exact sim_ret (.string _)
  cases hv with
  | sliceNil n c => exact sim_ret (.string _)
  | slice n c h hc => exact ld _ _ _ _ _ h
  | sliceG n c c' h hn hc hr => exact ld _ _ _ _ _ h
  | _ => exact sim_stuck
end
end Go.Proofs.Simul
