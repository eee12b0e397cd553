/- Two runs side by side, the blocks of the second renamed: values, objects and worlds that correspond; programs over memory that correspond run alike, touch only what corresponds, and leave the rest of the second world as it was. · Operations that correspond: the small ones, memory's, equality. · Operations that correspond: addresses, equality, maps. -/
import Derived.Calls
namespace Go.Proofs.Ytgpplekabohneaa.Co
open Go

abbrev Ren := Nat → Nat → Prop

structure VR.Cl (r : Ren) (M : Value → Value → Prop) : Prop where
  all ::
  bool : ∀ (b : Bool), M (.bool b) (.bool b)
  int : ∀ (k : IntKind) (n : Int), M (.int k n) (.int k n)
  nilPtr : M (.pointer none) (.pointer none)
  ptr : ∀ {b B : Nat} (o : Nat) (s : Option Nat), r b B → M (.pointer (some ⟨b, o, s⟩)) (.pointer (some ⟨B, o, s⟩))
  nilSlice : ∀ (l c : Nat), M (.slice none l c) (.slice none l c)
  slice : ∀ {b B : Nat} (o : Nat) (s : Option Nat) (l c : Nat), r b B → M (.slice (some ⟨b, o, s⟩) l c) (.slice (some ⟨B, o, s⟩) l c)
  nilMap : M (.map none) (.map none)
  map : ∀ {b B : Nat}, r b B → M (.map (some b)) (.map (some B))
  func : ∀ (f : FuncId), M (.func (.func f) #[] #[]) (.func (.func f) #[] #[])
  nilFunc : M .nilFunc .nilFunc
  nilIface : M .nilIface .nilIface
  agg : ∀ {cs ds : Array Value}, cs.size = ds.size → (∀ (i : Nat) (h : i < cs.size) (h' : i < ds.size), M cs[i] ds[i]) → M (.agg cs) (.agg ds)
  tuple : ∀ {cs ds : Array Value}, cs.size = ds.size → (∀ (i : Nat) (h : i < cs.size) (h' : i < ds.size), M cs[i] ds[i]) → M (.tuple cs) (.tuple ds)
def VR (r : Ren) (x : Value) (y : Value) : Prop := ∀ M : Value → Value → Prop, VR.Cl r M → M x y
theorem VR.bool {r : Ren} (b : Bool) : VR r (.bool b) (.bool b) := fun _ cl => cl.bool b
theorem VR.int {r : Ren} (k : IntKind) (n : Int) : VR r (.int k n) (.int k n) := fun _ cl => cl.int k n
theorem VR.nilPtr {r : Ren} : VR r (.pointer none) (.pointer none) := fun _ cl => cl.nilPtr 
theorem VR.ptr {r : Ren} {b B : Nat} (o : Nat) (s : Option Nat) (h1 : r b B) : VR r (.pointer (some ⟨b, o, s⟩)) (.pointer (some ⟨B, o, s⟩)) := fun _ cl => cl.ptr o s h1
theorem VR.nilSlice {r : Ren} (l c : Nat) : VR r (.slice none l c) (.slice none l c) := fun _ cl => cl.nilSlice l c
theorem VR.slice {r : Ren} {b B : Nat} (o : Nat) (s : Option Nat) (l c : Nat) (h1 : r b B) : VR r (.slice (some ⟨b, o, s⟩) l c) (.slice (some ⟨B, o, s⟩) l c) := fun _ cl => cl.slice o s l c h1
theorem VR.nilMap {r : Ren} : VR r (.map none) (.map none) := fun _ cl => cl.nilMap 
theorem VR.map {r : Ren} {b B : Nat} (h1 : r b B) : VR r (.map (some b)) (.map (some B)) := fun _ cl => cl.map h1
theorem VR.func {r : Ren} (f : FuncId) : VR r (.func (.func f) #[] #[]) (.func (.func f) #[] #[]) := fun _ cl => cl.func f
theorem VR.nilFunc {r : Ren} : VR r .nilFunc .nilFunc := fun _ cl => cl.nilFunc 
theorem VR.nilIface {r : Ren} : VR r .nilIface .nilIface := fun _ cl => cl.nilIface 
theorem VR.agg {r : Ren} {cs ds : Array Value} (h1 : cs.size = ds.size) (h2 : (∀ (i : Nat) (h : i < cs.size) (h' : i < ds.size), VR r cs[i] ds[i])) : VR r (.agg cs) (.agg ds) := fun M cl => cl.agg h1 (fun y0 y1 y2 => h2 y0 y1 y2 M cl)
theorem VR.tuple {r : Ren} {cs ds : Array Value} (h1 : cs.size = ds.size) (h2 : (∀ (i : Nat) (h : i < cs.size) (h' : i < ds.size), VR r cs[i] ds[i])) : VR r (.tuple cs) (.tuple ds) := fun M cl => cl.tuple h1 (fun y0 y1 y2 => h2 y0 y1 y2 M cl)
theorem VR.ind {r : Ren} {motive : (x : Value) → (y : Value) → VR r x y → Prop} (bool : ∀ (b : Bool), motive (.bool b) (.bool b) (VR.bool b))
    (int : ∀ (k : IntKind) (n : Int), motive (.int k n) (.int k n) (VR.int k n))
    (nilPtr : motive (.pointer none) (.pointer none) VR.nilPtr)
    (ptr : ∀ {b B : Nat} (o : Nat) (s : Option Nat) (h1 : r b B), motive (.pointer (some ⟨b, o, s⟩)) (.pointer (some ⟨B, o, s⟩)) (VR.ptr o s h1))
    (nilSlice : ∀ (l c : Nat), motive (.slice none l c) (.slice none l c) (VR.nilSlice l c))
    (slice : ∀ {b B : Nat} (o : Nat) (s : Option Nat) (l c : Nat) (h1 : r b B), motive (.slice (some ⟨b, o, s⟩) l c) (.slice (some ⟨B, o, s⟩) l c) (VR.slice o s l c h1))
    (nilMap : motive (.map none) (.map none) VR.nilMap)
    (map : ∀ {b B : Nat} (h1 : r b B), motive (.map (some b)) (.map (some B)) (VR.map h1))
    (func : ∀ (f : FuncId), motive (.func (.func f) #[] #[]) (.func (.func f) #[] #[]) (VR.func f))
    (nilFunc : motive .nilFunc .nilFunc VR.nilFunc)
    (nilIface : motive .nilIface .nilIface VR.nilIface)
    (agg : ∀ {cs ds : Array Value} (h1 : cs.size = ds.size) (h2 : (∀ (i : Nat) (h : i < cs.size) (h' : i < ds.size), VR r cs[i] ds[i])), (∀ (i : Nat) (h : i < cs.size) (h' : i < ds.size), motive cs[i] ds[i] (h2 i h h')) → motive (.agg cs) (.agg ds) (VR.agg h1 h2))
    (tuple : ∀ {cs ds : Array Value} (h1 : cs.size = ds.size) (h2 : (∀ (i : Nat) (h : i < cs.size) (h' : i < ds.size), VR r cs[i] ds[i])), (∀ (i : Nat) (h : i < cs.size) (h' : i < ds.size), motive cs[i] ds[i] (h2 i h h')) → motive (.tuple cs) (.tuple ds) (VR.tuple h1 h2)) {x : Value} {y : Value} (t : VR r x y) : motive x y t :=
  (t (fun x y => VR r x y ∧ ∀ h : VR r x y, motive x y h) ⟨fun b => ⟨VR.bool b, fun _ => bool b⟩,
    fun k n => ⟨VR.int k n, fun _ => int k n⟩,
    ⟨VR.nilPtr , fun _ => nilPtr ⟩,
    fun o s h1 => ⟨VR.ptr o s h1, fun _ => ptr o s h1⟩,
    fun l c => ⟨VR.nilSlice l c, fun _ => nilSlice l c⟩,
    fun o s l c h1 => ⟨VR.slice o s l c h1, fun _ => slice o s l c h1⟩,
    ⟨VR.nilMap , fun _ => nilMap ⟩,
    fun h1 => ⟨VR.map h1, fun _ => map h1⟩,
    fun f => ⟨VR.func f, fun _ => func f⟩,
    ⟨VR.nilFunc , fun _ => nilFunc ⟩,
    ⟨VR.nilIface , fun _ => nilIface ⟩,
    fun h1 h2 => ⟨VR.agg h1 (fun y0 y1 y2 => (h2 y0 y1 y2).1), fun _ => agg h1 (fun y0 y1 y2 => (h2 y0 y1 y2).1) (fun y0 y1 y2 => (h2 y0 y1 y2).2 _)⟩,
    fun h1 h2 => ⟨VR.tuple h1 (fun y0 y1 y2 => (h2 y0 y1 y2).1), fun _ => tuple h1 (fun y0 y1 y2 => (h2 y0 y1 y2).1) (fun y0 y1 y2 => (h2 y0 y1 y2).2 _)⟩⟩).2 t
theorem VR.cs {r : Ren} {motive : (x : Value) → (y : Value) → VR r x y → Prop} {x : Value} {y : Value} (t : VR r x y) (bool : ∀ (b : Bool), motive (.bool b) (.bool b) (VR.bool b))
    (int : ∀ (k : IntKind) (n : Int), motive (.int k n) (.int k n) (VR.int k n))
    (nilPtr : motive (.pointer none) (.pointer none) VR.nilPtr)
    (ptr : ∀ {b B : Nat} (o : Nat) (s : Option Nat) (h1 : r b B), motive (.pointer (some ⟨b, o, s⟩)) (.pointer (some ⟨B, o, s⟩)) (VR.ptr o s h1))
    (nilSlice : ∀ (l c : Nat), motive (.slice none l c) (.slice none l c) (VR.nilSlice l c))
    (slice : ∀ {b B : Nat} (o : Nat) (s : Option Nat) (l c : Nat) (h1 : r b B), motive (.slice (some ⟨b, o, s⟩) l c) (.slice (some ⟨B, o, s⟩) l c) (VR.slice o s l c h1))
    (nilMap : motive (.map none) (.map none) VR.nilMap)
    (map : ∀ {b B : Nat} (h1 : r b B), motive (.map (some b)) (.map (some B)) (VR.map h1))
    (func : ∀ (f : FuncId), motive (.func (.func f) #[] #[]) (.func (.func f) #[] #[]) (VR.func f))
    (nilFunc : motive .nilFunc .nilFunc VR.nilFunc)
    (nilIface : motive .nilIface .nilIface VR.nilIface)
    (agg : ∀ {cs ds : Array Value} (h1 : cs.size = ds.size) (h2 : (∀ (i : Nat) (h : i < cs.size) (h' : i < ds.size), VR r cs[i] ds[i])), motive (.agg cs) (.agg ds) (VR.agg h1 h2))
    (tuple : ∀ {cs ds : Array Value} (h1 : cs.size = ds.size) (h2 : (∀ (i : Nat) (h : i < cs.size) (h' : i < ds.size), VR r cs[i] ds[i])), motive (.tuple cs) (.tuple ds) (VR.tuple h1 h2)) : motive x y t :=
  VR.ind (motive := motive) (fun b => bool b) (fun k n => int k n) nilPtr (fun o s h1 => ptr o s h1) (fun l c => nilSlice l c) (fun o s l c h1 => slice o s l c h1) nilMap (fun h1 => map h1) (fun f => func f) nilFunc nilIface (fun h1 h2 _ => agg h1 h2) (fun h1 h2 _ => tuple h1 h2) t

/-- Rows of values that correspond. -/
def AR (r : Ren) (cs ds : Array Value) : Prop := cs.size = ds.size ∧ ∀ (i : Nat) (h : i < cs.size) (h' : i < ds.size), VR r cs[i] ds[i]

structure DR.Cl (r : Ren) (M : Addr → Addr → Prop) : Prop where
  all ::
  mk : ∀ {b B : Nat} (o : Nat) (s : Option Nat), r b B → M ⟨b, o, s⟩ ⟨B, o, s⟩
/-- Addresses that correspond. -/
def DR (r : Ren) (x : Addr) (y : Addr) : Prop := ∀ M : Addr → Addr → Prop, DR.Cl r M → M x y
theorem DR.mk {r : Ren} {b B : Nat} (o : Nat) (s : Option Nat) (h1 : r b B) : DR r ⟨b, o, s⟩ ⟨B, o, s⟩ := fun _ cl => cl.mk o s h1
theorem DR.cs {r : Ren} {motive : (x : Addr) → (y : Addr) → DR r x y → Prop} {x : Addr} {y : Addr} (t : DR r x y) (mk : ∀ {b B : Nat} (o : Nat) (s : Option Nat) (h1 : r b B), motive ⟨b, o, s⟩ ⟨B, o, s⟩ (DR.mk o s h1)) : motive x y t :=
  t (fun x y => ∀ h : DR r x y, motive x y h) ⟨fun o s h1 _ => mk o s h1⟩ t
structure ER.Cl (r : Ren) (M : MapEntry → MapEntry → Prop) : Prop where
  all ::
  mk : ∀ {k K v V : Value} (n : Nat), VR r k K → VR r v V → M ⟨k, v, n⟩ ⟨K, V, n⟩
def ER (r : Ren) (x : MapEntry) (y : MapEntry) : Prop := ∀ M : MapEntry → MapEntry → Prop, ER.Cl r M → M x y
theorem ER.mk {r : Ren} {k K v V : Value} (n : Nat) (h1 : VR r k K) (h2 : VR r v V) : ER r ⟨k, v, n⟩ ⟨K, V, n⟩ := fun _ cl => cl.mk n h1 h2
theorem ER.cs {r : Ren} {motive : (x : MapEntry) → (y : MapEntry) → ER r x y → Prop} {x : MapEntry} {y : MapEntry} (t : ER r x y) (mk : ∀ {k K v V : Value} (n : Nat) (h1 : VR r k K) (h2 : VR r v V), motive ⟨k, v, n⟩ ⟨K, V, n⟩ (ER.mk n h1 h2)) : motive x y t :=
  t (fun x y => ∀ h : ER r x y, motive x y h) ⟨fun n h1 h2 _ => mk n h1 h2⟩ t
structure OR.Cl (r : Ren) (M : Obj → Obj → Prop) : Prop where
  all ::
  cells : ∀ {c C : Array Value} (e : TypeId) (f : Nat × Nat), AR r c C → M (.cells c e f) (.cells C e f)
  map : ∀ {es ES : Array MapEntry} (n : Nat), es.size = ES.size → (∀ (i : Nat) (h : i < es.size) (h' : i < ES.size), ER r es[i] ES[i]) → M (.map es n) (.map ES n)
  number : ∀ {a A : Addr} (l : Bool), DR r a A → M (.number a l) (.number A l)
def OR (r : Ren) (x : Obj) (y : Obj) : Prop := ∀ M : Obj → Obj → Prop, OR.Cl r M → M x y
theorem OR.cells {r : Ren} {c C : Array Value} (e : TypeId) (f : Nat × Nat) (h1 : AR r c C) : OR r (.cells c e f) (.cells C e f) := fun _ cl => cl.cells e f h1
theorem OR.map {r : Ren} {es ES : Array MapEntry} (n : Nat) (h1 : es.size = ES.size) (h2 : (∀ (i : Nat) (h : i < es.size) (h' : i < ES.size), ER r es[i] ES[i])) : OR r (.map es n) (.map ES n) := fun _ cl => cl.map n h1 h2
theorem OR.number {r : Ren} {a A : Addr} (l : Bool) (h1 : DR r a A) : OR r (.number a l) (.number A l) := fun _ cl => cl.number l h1
theorem OR.cs {r : Ren} {motive : (x : Obj) → (y : Obj) → OR r x y → Prop} {x : Obj} {y : Obj} (t : OR r x y) (cells : ∀ {c C : Array Value} (e : TypeId) (f : Nat × Nat) (h1 : AR r c C), motive (.cells c e f) (.cells C e f) (OR.cells e f h1))
    (map : ∀ {es ES : Array MapEntry} (n : Nat) (h1 : es.size = ES.size) (h2 : (∀ (i : Nat) (h : i < es.size) (h' : i < ES.size), ER r es[i] ES[i])), motive (.map es n) (.map ES n) (OR.map n h1 h2))
    (number : ∀ {a A : Addr} (l : Bool) (h1 : DR r a A), motive (.number a l) (.number A l) (OR.number l h1)) : motive x y t :=
  t (fun x y => ∀ h : OR r x y, motive x y h) ⟨fun e f h1 _ => cells e f h1, fun n h1 h2 _ => map n h1 h2, fun l h1 _ => number l h1⟩ t
def Sub (r r' : Ren) : Prop := ∀ b B, r b B → r' b B
theorem Sub.refl (r : Ren) : Sub r r := fun _ _ h => h
theorem Sub.trans {r r' r'' : Ren} (h : Sub r r') (h' : Sub r' r'') : Sub r r'' := fun _ _ x => h' _ _ (h _ _ x)

theorem VR.mono {r r' : Ren} (h : Sub r r') {v V : Value} (x : VR r v V) : VR r' v V := by
  induction x using VR.ind with
  | ptr o s hb => exact .ptr o s (h _ _ hb)
  | slice o s l c hb => exact .slice o s l c (h _ _ hb)
  | map hb => exact .map (h _ _ hb)
  | agg e _ ih => exact .agg e ih
  | tuple e _ ih => exact .tuple e ih
  | _ => first | exact .bool _ | exact .int _ _ | exact .nilPtr | exact .nilSlice _ _ | exact .nilMap | exact .func _ | exact .nilFunc | exact .nilIface

theorem AR.mono {r r' : Ren} (h : Sub r r') {c C : Array Value} (x : AR r c C) : AR r' c C := ⟨x.1, fun i a b => (x.2 i a b).mono h⟩
theorem DR.mono {r r' : Ren} (h : Sub r r') {a A : Addr} (x : DR r a A) : DR r' a A := by
  cases x using DR.cs with
  | mk o s hb => exact .mk o s (h _ _ hb)
theorem ER.mono {r r' : Ren} (h : Sub r r') {a A : MapEntry} (x : ER r a A) : ER r' a A := by
  cases x using ER.cs with
  | mk n hk hv => exact .mk n (hk.mono h) (hv.mono h)
theorem OR.mono {r r' : Ren} (h : Sub r r') {a A : Obj} (x : OR r a A) : OR r' a A := by
  cases x using OR.cs with
  | cells e f hc => exact .cells e f (hc.mono h)
  | map n e he => exact .map n e fun i a b => (he i a b).mono h
  | number l ha => exact .number l (ha.mono h)

/-- The renaming is one to one, and leaves the variables of the program alone. -/
structure Bi (G : Nat) (r : Ren) : Prop where
  fn : ∀ b B B', r b B → r b B' → B = B'
  inj : ∀ b b' B, r b B → r b' B → b = b'
  low : ∀ b B, r b B → G ≤ b ∧ G ≤ B

theorem Bi.iff {G : Nat} {r : Ren} (h : Bi G r) {b B c C : Nat} (x : r b B) (y : r c C) : b = c ↔ B = C :=
  ⟨fun e => by subst e; exact h.fn _ _ _ x y, fun e => by subst e; exact h.inj _ _ _ x y⟩

/-- Worlds that correspond. -/
structure WR (r : Ren) (w W : World) : Prop where
  obj : ∀ b B, r b B → ∃ o O, w.heap[b]? = some o ∧ W.heap[B]? = some O ∧ OR r o O
  tape : w.tape = W.tape
  drawn : w.drawn = W.drawn

/-! ### programs over memory -/
/-- How a program of the first run may stop short: by a panic, or where the model knows no way on. -/
def HaltOk : Halt → Prop
  | .panic _ | .stuck _ => True
  | .unsupported (.initOrder _) => False
  | .unsupported _ => True
  | _ => False

structure TR.Cl (P : Program) (G : Nat) {α β : Type} (Q : Ren → α → β → Prop) (M : Ren → Sem α → Sem β → Prop) : Prop where
  all ::
  pure : ∀ {r : Ren} {a : α} {b : β}, Q r a b → M r (.pure a) (.pure b)
  load : ∀ {r : Ren} {a A : Addr} {k : Value → Sem α} {K : Value → Sem β}, DR r a A → (∀ v V, VR r v V → M r (k v) (K V)) → M r (.load .plain a k) (.load .plain A K)
  store : ∀ {r : Ren} {a A : Addr} {v V : Value} {k : Sem α} {K : Sem β}, DR r a A → VR r v V → M r k K → M r (.store .plain a v k) (.store .plain A V K)
  new : ∀ {r : Ren} {o O : Obj} {k : Nat → Sem α} {K : Nat → Sem β}, OR r o O → (∀ r' n N, Sub r r' → r' n N → Bi G r' → M r' (k n) (K N)) → M r (.new o k) (.new O K)
  shape : ∀ {r : Ren} {b B : Nat} {k : Option (TypeId × Nat) → Sem α} {K : Option (TypeId × Nat) → Sem β}, r b B → (∀ s, M r (k s) (K s)) → M r (.shape b k) (.shape B K)
  frozen : ∀ {r : Ren} {a A : Addr} {k : Bool → Sem α} {K : Bool → Sem β}, DR r a A → (∀ s, M r (k s) (K s)) → M r (.frozen a k) (.frozen A K)
  getObj : ∀ {r : Ren} {b B : Nat} {k : Obj → Sem α} {K : Obj → Sem β}, r b B → (∀ o O, OR r o O → M r (k o) (K O)) → M r (.getObj b k) (.getObj B K)
  setObj : ∀ {r : Ren} {b B : Nat} {o O : Obj} {k : Sem α} {K : Sem β}, r b B → OR r o O → M r k K → M r (.setObj b o k) (.setObj B O K)
  choose : ∀ {r : Ren} {k : Nat → Sem α} {K : Nat → Sem β} (q : Question), (∀ n, M r (k n) (K n)) → M r (.choose q k) (.choose q K)
  program : ∀ {r : Ren} {k : Program → Sem α} {K : Program → Sem β}, M r (k P) (K P) → M r (.program k) (.program K)
  noRoom : ∀ {r : Ren} {k : Sem α} {K : Sem β}, M r k K → M r (.mark .noRoom k) (.mark .noRoom K)
  halt : ∀ {r : Ren} {h : Halt} {S : Sem β}, HaltOk h → M r (.halt h) S
def TR (P : Program) (G : Nat) {α β : Type} (Q : Ren → α → β → Prop) (r : Ren) (x : Sem α) (y : Sem β) : Prop := ∀ M : Ren → Sem α → Sem β → Prop, TR.Cl P G Q M → M r x y
theorem TR.pure {P : Program} {G : Nat} {α β : Type} {Q : Ren → α → β → Prop} {r : Ren} {a : α} {b : β} (h1 : Q r a b) : TR P G Q r (.pure a) (.pure b) := fun _ cl => cl.pure h1
theorem TR.load {P : Program} {G : Nat} {α β : Type} {Q : Ren → α → β → Prop} {r : Ren} {a A : Addr} {k : Value → Sem α} {K : Value → Sem β} (h1 : DR r a A) (h2 : (∀ v V, VR r v V → TR P G Q r (k v) (K V))) : TR P G Q r (.load .plain a k) (.load .plain A K) := fun M cl => cl.load h1 (fun y0 y1 y2 => h2 y0 y1 y2 M cl)
theorem TR.store {P : Program} {G : Nat} {α β : Type} {Q : Ren → α → β → Prop} {r : Ren} {a A : Addr} {v V : Value} {k : Sem α} {K : Sem β} (h1 : DR r a A) (h2 : VR r v V) (h3 : TR P G Q r k K) : TR P G Q r (.store .plain a v k) (.store .plain A V K) := fun M cl => cl.store h1 h2 (h3 M cl)
theorem TR.new {P : Program} {G : Nat} {α β : Type} {Q : Ren → α → β → Prop} {r : Ren} {o O : Obj} {k : Nat → Sem α} {K : Nat → Sem β} (h1 : OR r o O) (h2 : (∀ r' n N, Sub r r' → r' n N → Bi G r' → TR P G Q r' (k n) (K N))) : TR P G Q r (.new o k) (.new O K) := fun M cl => cl.new h1 (fun y0 y1 y2 y3 y4 y5 => h2 y0 y1 y2 y3 y4 y5 M cl)
theorem TR.shape {P : Program} {G : Nat} {α β : Type} {Q : Ren → α → β → Prop} {r : Ren} {b B : Nat} {k : Option (TypeId × Nat) → Sem α} {K : Option (TypeId × Nat) → Sem β} (h1 : r b B) (h2 : (∀ s, TR P G Q r (k s) (K s))) : TR P G Q r (.shape b k) (.shape B K) := fun M cl => cl.shape h1 (fun y0 => h2 y0 M cl)
theorem TR.frozen {P : Program} {G : Nat} {α β : Type} {Q : Ren → α → β → Prop} {r : Ren} {a A : Addr} {k : Bool → Sem α} {K : Bool → Sem β} (h1 : DR r a A) (h2 : (∀ s, TR P G Q r (k s) (K s))) : TR P G Q r (.frozen a k) (.frozen A K) := fun M cl => cl.frozen h1 (fun y0 => h2 y0 M cl)
theorem TR.getObj {P : Program} {G : Nat} {α β : Type} {Q : Ren → α → β → Prop} {r : Ren} {b B : Nat} {k : Obj → Sem α} {K : Obj → Sem β} (h1 : r b B) (h2 : (∀ o O, OR r o O → TR P G Q r (k o) (K O))) : TR P G Q r (.getObj b k) (.getObj B K) := fun M cl => cl.getObj h1 (fun y0 y1 y2 => h2 y0 y1 y2 M cl)
theorem TR.setObj {P : Program} {G : Nat} {α β : Type} {Q : Ren → α → β → Prop} {r : Ren} {b B : Nat} {o O : Obj} {k : Sem α} {K : Sem β} (h1 : r b B) (h2 : OR r o O) (h3 : TR P G Q r k K) : TR P G Q r (.setObj b o k) (.setObj B O K) := fun M cl => cl.setObj h1 h2 (h3 M cl)
theorem TR.choose {P : Program} {G : Nat} {α β : Type} {Q : Ren → α → β → Prop} {r : Ren} {k : Nat → Sem α} {K : Nat → Sem β} (q : Question) (h1 : (∀ n, TR P G Q r (k n) (K n))) : TR P G Q r (.choose q k) (.choose q K) := fun M cl => cl.choose q (fun y0 => h1 y0 M cl)
theorem TR.program {P : Program} {G : Nat} {α β : Type} {Q : Ren → α → β → Prop} {r : Ren} {k : Program → Sem α} {K : Program → Sem β} (h1 : TR P G Q r (k P) (K P)) : TR P G Q r (.program k) (.program K) := fun M cl => cl.program (h1 M cl)
theorem TR.noRoom {P : Program} {G : Nat} {α β : Type} {Q : Ren → α → β → Prop} {r : Ren} {k : Sem α} {K : Sem β} (h1 : TR P G Q r k K) : TR P G Q r (.mark .noRoom k) (.mark .noRoom K) := fun M cl => cl.noRoom (h1 M cl)
theorem TR.halt {P : Program} {G : Nat} {α β : Type} {Q : Ren → α → β → Prop} {r : Ren} {h : Halt} {S : Sem β} (h1 : HaltOk h) : TR P G Q r (.halt h) S := fun _ cl => cl.halt h1
theorem TR.ind {P : Program} {G : Nat} {α β : Type} {Q : Ren → α → β → Prop} {motive : (r : Ren) → (x : Sem α) → (y : Sem β) → TR P G Q r x y → Prop} (pure : ∀ {r : Ren} {a : α} {b : β} (h1 : Q r a b), motive r (.pure a) (.pure b) (TR.pure h1))
    (load : ∀ {r : Ren} {a A : Addr} {k : Value → Sem α} {K : Value → Sem β} (h1 : DR r a A) (h2 : (∀ v V, VR r v V → TR P G Q r (k v) (K V))), (∀ v V, ∀ (q0 : VR r v V), motive r (k v) (K V) (h2 v V q0)) → motive r (.load .plain a k) (.load .plain A K) (TR.load h1 h2))
    (store : ∀ {r : Ren} {a A : Addr} {v V : Value} {k : Sem α} {K : Sem β} (h1 : DR r a A) (h2 : VR r v V) (h3 : TR P G Q r k K), motive r k K h3 → motive r (.store .plain a v k) (.store .plain A V K) (TR.store h1 h2 h3))
    (new : ∀ {r : Ren} {o O : Obj} {k : Nat → Sem α} {K : Nat → Sem β} (h1 : OR r o O) (h2 : (∀ r' n N, Sub r r' → r' n N → Bi G r' → TR P G Q r' (k n) (K N))), (∀ r' n N, ∀ (q0 : Sub r r') (q1 : r' n N) (q2 : Bi G r'), motive r' (k n) (K N) (h2 r' n N q0 q1 q2)) → motive r (.new o k) (.new O K) (TR.new h1 h2))
    (shape : ∀ {r : Ren} {b B : Nat} {k : Option (TypeId × Nat) → Sem α} {K : Option (TypeId × Nat) → Sem β} (h1 : r b B) (h2 : (∀ s, TR P G Q r (k s) (K s))), (∀ s, motive r (k s) (K s) (h2 s)) → motive r (.shape b k) (.shape B K) (TR.shape h1 h2))
    (frozen : ∀ {r : Ren} {a A : Addr} {k : Bool → Sem α} {K : Bool → Sem β} (h1 : DR r a A) (h2 : (∀ s, TR P G Q r (k s) (K s))), (∀ s, motive r (k s) (K s) (h2 s)) → motive r (.frozen a k) (.frozen A K) (TR.frozen h1 h2))
    (getObj : ∀ {r : Ren} {b B : Nat} {k : Obj → Sem α} {K : Obj → Sem β} (h1 : r b B) (h2 : (∀ o O, OR r o O → TR P G Q r (k o) (K O))), (∀ o O, ∀ (q0 : OR r o O), motive r (k o) (K O) (h2 o O q0)) → motive r (.getObj b k) (.getObj B K) (TR.getObj h1 h2))
    (setObj : ∀ {r : Ren} {b B : Nat} {o O : Obj} {k : Sem α} {K : Sem β} (h1 : r b B) (h2 : OR r o O) (h3 : TR P G Q r k K), motive r k K h3 → motive r (.setObj b o k) (.setObj B O K) (TR.setObj h1 h2 h3))
    (choose : ∀ {r : Ren} {k : Nat → Sem α} {K : Nat → Sem β} (q : Question) (h1 : (∀ n, TR P G Q r (k n) (K n))), (∀ n, motive r (k n) (K n) (h1 n)) → motive r (.choose q k) (.choose q K) (TR.choose q h1))
    (program : ∀ {r : Ren} {k : Program → Sem α} {K : Program → Sem β} (h1 : TR P G Q r (k P) (K P)), motive r (k P) (K P) h1 → motive r (.program k) (.program K) (TR.program h1))
    (noRoom : ∀ {r : Ren} {k : Sem α} {K : Sem β} (h1 : TR P G Q r k K), motive r k K h1 → motive r (.mark .noRoom k) (.mark .noRoom K) (TR.noRoom h1))
    (halt : ∀ {r : Ren} {h : Halt} {S : Sem β} (h1 : HaltOk h), motive r (.halt h) S (TR.halt h1)) {r : Ren} {x : Sem α} {y : Sem β} (t : TR P G Q r x y) : motive r x y t :=
  (t (fun r x y => TR P G Q r x y ∧ ∀ h : TR P G Q r x y, motive r x y h) ⟨fun h1 => ⟨TR.pure h1, fun _ => pure h1⟩,
    fun h1 h2 => ⟨TR.load h1 (fun y0 y1 y2 => (h2 y0 y1 y2).1), fun _ => load h1 (fun y0 y1 y2 => (h2 y0 y1 y2).1) (fun y0 y1 y2 => (h2 y0 y1 y2).2 _)⟩,
    fun h1 h2 h3 => ⟨TR.store h1 h2 h3.1, fun _ => store h1 h2 h3.1 (h3.2 _)⟩,
    fun h1 h2 => ⟨TR.new h1 (fun y0 y1 y2 y3 y4 y5 => (h2 y0 y1 y2 y3 y4 y5).1), fun _ => new h1 (fun y0 y1 y2 y3 y4 y5 => (h2 y0 y1 y2 y3 y4 y5).1) (fun y0 y1 y2 y3 y4 y5 => (h2 y0 y1 y2 y3 y4 y5).2 _)⟩,
    fun h1 h2 => ⟨TR.shape h1 (fun y0 => (h2 y0).1), fun _ => shape h1 (fun y0 => (h2 y0).1) (fun y0 => (h2 y0).2 _)⟩,
    fun h1 h2 => ⟨TR.frozen h1 (fun y0 => (h2 y0).1), fun _ => frozen h1 (fun y0 => (h2 y0).1) (fun y0 => (h2 y0).2 _)⟩,
    fun h1 h2 => ⟨TR.getObj h1 (fun y0 y1 y2 => (h2 y0 y1 y2).1), fun _ => getObj h1 (fun y0 y1 y2 => (h2 y0 y1 y2).1) (fun y0 y1 y2 => (h2 y0 y1 y2).2 _)⟩,
    fun h1 h2 h3 => ⟨TR.setObj h1 h2 h3.1, fun _ => setObj h1 h2 h3.1 (h3.2 _)⟩,
    fun q h1 => ⟨TR.choose q (fun y0 => (h1 y0).1), fun _ => choose q (fun y0 => (h1 y0).1) (fun y0 => (h1 y0).2 _)⟩,
    fun h1 => ⟨TR.program h1.1, fun _ => program h1.1 (h1.2 _)⟩,
    fun h1 => ⟨TR.noRoom h1.1, fun _ => noRoom h1.1 (h1.2 _)⟩,
    fun h1 => ⟨TR.halt h1, fun _ => halt h1⟩⟩).2 t
theorem TR.mono {P : Program} {G : Nat} {α β : Type} {Q Q' : Ren → α → β → Prop} {r : Ren} {s : Sem α} {S : Sem β} (h : TR P G Q r s S) (hq : ∀ r' a b, Sub r r' → Q r' a b → Q' r' a b) : TR P G Q' r s S := by
  induction h using TR.ind with
  | pure h => exact .pure (hq _ _ _ (Sub.refl _) h)
  | load ha _ ih => exact .load ha fun v V x => ih v V x hq
  | store ha hv _ ih => exact .store ha hv (ih hq)
  | new ho _ ih => exact .new ho fun r' n N hs hn hB => ih r' n N hs hn hB fun r'' a b h1 h2 => hq r'' a b (hs.trans h1) h2
  | shape hb _ ih => exact .shape hb fun s => ih s hq
  | frozen ha _ ih => exact .frozen ha fun s => ih s hq
  | getObj hb _ ih => exact .getObj hb fun o O x => ih o O x hq
  | setObj hb ho _ ih => exact .setObj hb ho (ih hq)
  | choose q _ ih => exact .choose q fun n => ih n hq
  | program _ ih => exact .program (ih hq)
  | noRoom _ ih => exact .noRoom (ih hq)
  | halt h => exact .halt h

theorem TR.bind' {P : Program} {G : Nat} {α β γ δ : Type} {Q : Ren → α → β → Prop} {Q' : Ren → γ → δ → Prop} {r : Ren} {s : Sem α} {S : Sem β} {f : α → Sem γ} {F : β → Sem δ}
    (hB : Bi G r) (h : TR P G Q r s S) (hf : ∀ r' a b, Sub r r' → Bi G r' → Q r' a b → TR P G Q' r' (f a) (F b)) : TR P G Q' r (s.bind f) (S.bind F) := by
  induction h using TR.ind with
  | pure h => exact hf _ _ _ (Sub.refl _) hB h
  | load ha _ ih => exact .load ha fun v V x => ih v V x hB hf
  | store ha hv _ ih => exact .store ha hv (ih hB hf)
  | new ho _ ih => exact .new ho fun r' n N hs hn hB' => ih r' n N hs hn hB' hB' fun r'' a b h1 h2 h3 => hf r'' a b (hs.trans h1) h2 h3
  | shape hb _ ih => exact .shape hb fun s => ih s hB hf
  | frozen ha _ ih => exact .frozen ha fun s => ih s hB hf
  | getObj hb _ ih => exact .getObj hb fun o O x => ih o O x hB hf
  | setObj hb ho _ ih => exact .setObj hb ho (ih hB hf)
  | choose q _ ih => exact .choose q fun n => ih n hB hf
  | program _ ih => exact .program (ih hB hf)
  | noRoom _ ih => exact .noRoom (ih hB hf)
  | halt h => exact .halt h

theorem TR.bind {P : Program} {G : Nat} {α β γ δ : Type} {Q : Ren → α → β → Prop} {Q' : Ren → γ → δ → Prop} {r : Ren} {s : Sem α} {S : Sem β} {f : α → Sem γ} {F : β → Sem δ}
    (hB : Bi G r) (h : TR P G Q r s S) (hf : ∀ r' a b, Sub r r' → Bi G r' → Q r' a b → TR P G Q' r' (f a) (F b)) : TR P G Q' r (s >>= f) (S >>= F) := TR.bind' hB h hf

/-- Nothing new is made: the renaming stays. -/
theorem TR.bindS {P : Program} {G : Nat} {α β γ δ : Type} {Q : α → β → Prop} {Q' : Ren → γ → δ → Prop} {r : Ren} {s : Sem α} {S : Sem β} {f : α → Sem γ} {F : β → Sem δ}
    (hB : Bi G r) (h : TR P G (fun r' a b => r' = r ∧ Q a b) r s S) (hf : ∀ a b, Q a b → TR P G Q' r (f a) (F b)) : TR P G Q' r (s >>= f) (S >>= F) := by
  refine TR.bind' hB h ?_
  rintro r' a b - - ⟨rfl, hq⟩
  exact hf a b hq

/-! ### the second run -/
/-- Rows of cells stay rows of as many cells of that make. -/
def Shaped (w w' : World) : Prop := ∀ (b : Nat) (c : Array Value) (e : TypeId) (f : Nat × Nat), w.heap[b]? = some (.cells c e f) → ∃ c' : Array Value, w'.heap[b]? = some (.cells c' e f) ∧ c'.size = c.size

theorem Shaped.refl (w : World) : Shaped w w := fun _ c _ _ h => ⟨c, h, rfl⟩
theorem Shaped.trans {a b c : World} (h : Shaped a b) (k : Shaped b c) : Shaped a c := by
  intro n x e f hx
  obtain ⟨y, hy, ey⟩ := h n x e f hx
  obtain ⟨z, hz, ez⟩ := k n y e f hy
  exact ⟨z, hz, ez.trans ey⟩
theorem Shaped.setCell (w : World) (a : Addr) (v : Value) : Shaped w (w.setCell a v) := by
  intro b c e f h
  by_cases hb : a.block = b
  · refine ⟨if a.spot.isSome then c else c.setIfInBounds a.off v, ?_, by split <;> simp⟩
    simp only [World.setCell, Array.getElem?_modify, hb, if_true, h, Option.map_some]
  · exact ⟨c, by simp [World.setCell, Array.getElem?_modify, hb, h], rfl⟩
theorem Shaped.setObj (w : World) {b : Nat} (o : Obj) (hn : ∀ c e f, w.heap[b]? ≠ some (.cells c e f)) : Shaped w { w with heap := w.heap.setIfInBounds b o } := by
  intro n c e f h
  by_cases hb : b = n
  · subst hb; exact absurd h (hn c e f)
  · exact ⟨c, by simp [hb, h], rfl⟩
theorem Shaped.push (w : World) (o : Obj) : Shaped w { w with heap := w.heap.push o } := by
  intro n c e f h
  have hlt : n < w.heap.size := (Array.getElem?_eq_some_iff.1 h).1
  exact ⟨c, by simp only; rw [Array.getElem?_push_lt hlt, ← Array.getElem?_eq_getElem hlt]; exact h, rfl⟩

/-- What the second world keeps: all that does not correspond. -/
structure Keeps (r : Ren) (W W' : World) : Prop where
  size : W.heap.size ≤ W'.heap.size
  rest : ∀ B, B < W.heap.size → (∀ b, ¬ r b B) → W'.heap[B]? = W.heap[B]?
  tape : W'.tape = W.tape
  os : W'.os = W.os
  output : W'.output = W.output
  shape : Shaped W W'

/-- The renaming grows by new blocks alone. -/
def Fresh (r r' : Ren) (w W : World) : Prop := ∀ b B, r' b B → r b B ∨ (w.heap.size ≤ b ∧ W.heap.size ≤ B)

/-- What is listed lies in blocks that correspond, or is no access. -/
def EvOk (r : Ren) (e : Event) : Prop :=
  match e.loc with
  | .cell A => (∃ b, r b A.block) ∧ e.sync = false
  | .obj B => (∃ b, r b B) ∧ e.sync = false
  | .mark .noRoom => True
  | _ => False

theorem EvOk.mono {r r' : Ren} (h : Sub r r') {e : Event} (x : EvOk r e) : EvOk r' e := by
  unfold EvOk at *
  split at x
  · exact ⟨x.1.imp fun _ y => h _ _ y, x.2⟩
  · exact ⟨x.1.imp fun _ y => h _ _ y, x.2⟩
  · trivial
  · exact x.elim

section
variable {G : Nat} {r : Ren} {w W : World}

theorem WR.cell (h : WR r w W) {a A : Addr} (x : DR r a A) {v : Value} (hv : w.cell? a = some v) : ∃ V, W.cell? A = some V ∧ VR r v V := by
  cases x using DR.cs with
  | mk o s hb =>
    obtain ⟨ob, OB, h1, h2, h3⟩ := h.obj _ _ hb
    cases h3 using OR.cs with
    | cells e f hc =>
      simp only [World.cell?, h1] at hv
      split at hv
      · cases hv
      · rename_i hs
        obtain ⟨hlt, rfl⟩ := Array.getElem?_eq_some_iff.1 hv
        exact ⟨_, by simp only [World.cell?, h2]; rw [if_neg hs]; exact Array.getElem?_eq_getElem (hc.1 ▸ hlt), hc.2 _ _ _⟩
    | map n e he => simp [World.cell?, h1] at hv
    | number l ha => simp [World.cell?, h1] at hv

theorem WR.far (h : WR r w W) {a A : Addr} (x : DR r a A) (P : Program) (m : Bool) : ∃ e, w.farLoad P a m = .error e := by
  cases x using DR.cs with
  | @mk b B o s hb =>
    obtain ⟨ob, OB, h1, h2, h3⟩ := h.obj _ _ hb
    cases hq : w.farLoad P ⟨b, o, s⟩ m with
    | error e => exact ⟨e, rfl⟩
    | ok v => cases h3 using OR.cs <;> simp [World.farLoad, h1] at hq

theorem WR.farS (h : WR r w W) {a A : Addr} (x : DR r a A) (P : Program) (v : Value) (m : Bool) : ∃ e, w.farStore P a v m = .error e := by
  cases x using DR.cs with
  | @mk b B o s hb =>
    obtain ⟨ob, OB, h1, h2, h3⟩ := h.obj _ _ hb
    cases hq : w.farStore P ⟨b, o, s⟩ v m with
    | error e => exact ⟨e, rfl⟩
    | ok v => cases h3 using OR.cs <;> simp [World.farStore, h1] at hq

theorem WR.frozen (h : WR r w W) {a A : Addr} (x : DR r a A) : W.frozen? A = w.frozen? a := by
  cases x using DR.cs with
  | mk o s hb =>
    obtain ⟨ob, OB, h1, h2, h3⟩ := h.obj _ _ hb
    cases h3 using OR.cs <;> simp [World.frozen?, h1, h2]

theorem WR.shape (h : WR r w W) {b B : Nat} (x : r b B) : W.shape? B = w.shape? b := by
  obtain ⟨ob, OB, h1, h2, h3⟩ := h.obj _ _ x
  cases h3 using OR.cs with
  | cells e f hc => simp [World.shape?, h1, h2, hc.1]
  | map n e he => simp [World.shape?, h1, h2]
  | number l ha => simp [World.shape?, h1, h2]

theorem WR.lt (h : WR r w W) {b B : Nat} (x : r b B) : b < w.heap.size ∧ B < W.heap.size := by
  obtain ⟨ob, OB, h1, h2, h3⟩ := h.obj _ _ x
  exact ⟨(Array.getElem?_eq_some_iff.1 h1).1, (Array.getElem?_eq_some_iff.1 h2).1⟩

theorem AR.set {c C : Array Value} (h : AR r c C) (i : Nat) {v V : Value} (hv : VR r v V) : AR r (c.setIfInBounds i v) (C.setIfInBounds i V) := by
  refine ⟨by simp [h.1], fun j h1 h2 => ?_⟩
  by_cases e : i = j
  · subst e; simpa using hv
  · rw [Array.getElem_setIfInBounds_ne (by simpa using h1) e, Array.getElem_setIfInBounds_ne (by simpa using h2) e]
    exact h.2 j _ _

theorem WR.setCell (hb : Bi G r) (h : WR r w W) {a A : Addr} (x : DR r a A) {v V : Value} (hv : VR r v V) : WR r (w.setCell a v) (W.setCell A V) := by
  cases x using DR.cs with
  | @mk b B o s hbB =>
    refine ⟨fun c C hc => ?_, h.tape, h.drawn⟩
    obtain ⟨ob, OB, h1, h2, h3⟩ := h.obj _ _ hc
    simp only [World.setCell, Array.getElem?_modify]
    by_cases e : b = c
    · have e' : B = C := (hb.iff hbB hc).1 e
      subst e; subst e'
      simp only [if_true, h1, h2, Option.map_some]
      cases h3 using OR.cs with
      | cells el f hcs =>
        refine ⟨_, _, rfl, rfl, .cells el f ?_⟩
        cases s with
        | some _ => exact hcs
        | none => exact hcs.set o hv
      | map n e he => exact ⟨_, _, rfl, rfl, .map n e he⟩
      | number l ha => exact ⟨_, _, rfl, rfl, .number l ha⟩
    · have e' : ¬ B = C := fun y => e ((hb.iff hbB hc).2 y)
      simp only [e, e', if_false]
      exact ⟨_, _, h1, h2, h3⟩

theorem WR.setObj (hb : Bi G r) (h : WR r w W) {b B : Nat} (x : r b B) {o O : Obj} (ho : OR r o O) : WR r { w with heap := w.heap.setIfInBounds b o } { W with heap := W.heap.setIfInBounds B O } := by
  refine ⟨fun c C hc => ?_, h.tape, h.drawn⟩
  obtain ⟨ob, OB, h1, h2, h3⟩ := h.obj _ _ hc
  have hl := h.lt x
  by_cases e : b = c
  · have e' : B = C := (hb.iff x hc).1 e
    subst e; subst e'
    exact ⟨o, O, by simp [hl.1], by simp [hl.2], ho⟩
  · have e' : ¬ B = C := fun y => e ((hb.iff x hc).2 y)
    exact ⟨ob, OB, by simp [e, h1], by simp [e', h2], h3⟩

/-- The renaming with one pair more. -/
def plus (r : Ren) (n N : Nat) : Ren := fun b B => r b B ∨ (b = n ∧ B = N)

theorem sub_plus (r : Ren) (n N : Nat) : Sub r (plus r n N) := fun _ _ h => .inl h

theorem Bi.plus (hb : Bi G r) (h : WR r w W) (h1 : G ≤ w.heap.size) (h2 : G ≤ W.heap.size) : Bi G (plus r w.heap.size W.heap.size) := by
  refine ⟨fun b B B' x y => ?_, fun b b' B x y => ?_, fun b B x => ?_⟩
  · rcases x with x | ⟨rfl, rfl⟩ <;> rcases y with y | ⟨e, rfl⟩
    · exact hb.fn _ _ _ x y
    · subst e; have := (h.lt x).1; omega
    · have := (h.lt y).1; omega
    · rfl
  · rcases x with x | ⟨rfl, rfl⟩ <;> rcases y with y | ⟨rfl, e⟩
    · exact hb.inj _ _ _ x y
    · subst e; have := (h.lt x).2; omega
    · have := (h.lt y).2; omega
    · rfl
  · rcases x with x | ⟨rfl, rfl⟩
    · exact hb.low _ _ x
    · exact ⟨h1, h2⟩

theorem WR.new (h : WR r w W) {o O : Obj} (ho : OR r o O) : WR (Co.plus r w.heap.size W.heap.size) { w with heap := w.heap.push o } { W with heap := W.heap.push O } := by
  refine ⟨fun b B x => ?_, h.tape, h.drawn⟩
  rcases x with x | ⟨rfl, rfl⟩
  · obtain ⟨ob, OB, h1, h2, h3⟩ := h.obj _ _ x
    have hl := h.lt x
    exact ⟨ob, OB, by rw [Array.getElem?_push_lt hl.1, ← h1, Array.getElem?_eq_getElem hl.1], by rw [Array.getElem?_push_lt hl.2, ← h2, Array.getElem?_eq_getElem hl.2], h3.mono (sub_plus _ _ _)⟩
  · exact ⟨o, O, by simp, by simp, ho.mono (sub_plus _ _ _)⟩

theorem setCell_size (w : World) (a : Addr) (v : Value) : (w.setCell a v).heap.size = w.heap.size := by simp [World.setCell]

theorem Keeps.refl (r : Ren) (W : World) : Keeps r W W := ⟨Nat.le_refl _, fun _ _ _ => rfl, rfl, rfl, rfl, Shaped.refl W⟩
theorem Keeps.setCell {a A : Addr} (x : DR r a A) (W : World) (V : Value) : Keeps r W (W.setCell A V) := by
  cases x using DR.cs with
  | @mk b B o s hb =>
    refine ⟨by simp [World.setCell], fun C _ hn => ?_, rfl, rfl, rfl, Shaped.setCell _ _ _⟩
    have : ¬ B = C := fun e => hn b (e ▸ hb)
    simp [World.setCell, Array.getElem?_modify, this]
theorem Keeps.setObj {b B : Nat} (x : r b B) (W : World) (O : Obj) (hc : ∀ c e f, W.heap[B]? ≠ some (.cells c e f)) : Keeps r W { W with heap := W.heap.setIfInBounds B O } := by
  refine ⟨by simp, fun C _ hn => ?_, rfl, rfl, rfl, Shaped.setObj W O hc⟩
  have : ¬ B = C := fun e => hn b (e ▸ x)
  simp [this]
theorem Keeps.trans {r r' : Ren} {w W W' W'' : World} (h : Keeps r W W') (h' : Keeps r' W' W'') (hf : Fresh r r' w W) : Keeps r W W'' := by
  refine ⟨Nat.le_trans h.size h'.size, fun B hB hn => ?_, h'.tape.trans h.tape, h'.os.trans h.os, h'.output.trans h.output, h.shape.trans h'.shape⟩
  rw [h'.rest B (Nat.lt_of_lt_of_le hB h.size) (fun b x => ?_), h.rest B hB hn]
  rcases hf b B x with x | ⟨_, x⟩
  · exact hn b x
  · omega
theorem Fresh.refl (r : Ren) (w W : World) : Fresh r r w W := fun _ _ h => .inl h
theorem Fresh.trans {r r' r'' : Ren} {w W w' W' : World} (h : Fresh r r' w W) (h' : Fresh r' r'' w' W') (hs : w.heap.size ≤ w'.heap.size) (hS : W.heap.size ≤ W'.heap.size) : Fresh r r'' w W := by
  intro b B x
  rcases h' b B x with x | ⟨x, y⟩
  · exact h b B x
  · exact .inr ⟨Nat.le_trans hs x, Nat.le_trans hS y⟩
end

/-- What the second run owes. -/
structure Ran (P : Program) (G : Nat) {α β : Type} (Q : Ren → α → β → Prop) (r : Ren) (w W : World) (a : α) (w' : World) (S : Sem β) : Prop where
  out : ∀ es, ∃ r' b W' es', S.runT P W es = (.ok b W', es ++ es') ∧ Sub r r' ∧ Bi G r' ∧ WR r' w' W' ∧ Keeps r W W' ∧ Fresh r r' w W ∧ (∀ e ∈ es', EvOk r' e) ∧ Q r' a b ∧ w.heap.size ≤ w'.heap.size

theorem Ran.step {P : Program} {G : Nat} {α β : Type} {Q : Ren → α → β → Prop} {r r₁ : Ren} {w w₁ W W₁ : World} {a : α} {w' : World} {S S' : Sem β} (h : Ran P G Q r₁ w₁ W₁ a w' S') (e : Array Event)
    (hr : ∀ es, S.runT P W es = S'.runT P W₁ (es ++ e)) (hs : Sub r r₁) (hk : Keeps r W W₁) (hf : Fresh r r₁ w W) (hz : w.heap.size ≤ w₁.heap.size) (he : ∀ x ∈ e, EvOk r₁ x) : Ran P G Q r w W a w' S := by
  refine ⟨fun es => ?_⟩
  obtain ⟨r', b, W', es', h1, h2, h3, h4, h5, h6, h7, h8, h9⟩ := h.out (es ++ e)
  refine ⟨r', b, W', e ++ es', by rw [hr, h1, Array.append_assoc], hs.trans h2, h3, h4, hk.trans h5 hf, hf.trans h6 hz hk.size, fun x hx => ?_, h8, Nat.le_trans hz h9⟩
  rcases Array.mem_append.1 hx with hx | hx
  · exact (he x hx).mono h2
  · exact h7 x hx

theorem TR.ran {P : Program} {G : Nat} {α β : Type} {Q : Ren → α → β → Prop} {r : Ren} {s : Sem α} {S : Sem β} (h : TR P G Q r s S) :
    ∀ {w W : World} {a : α} {w' : World}, Bi G r → WR r w W → G ≤ w.heap.size → G ≤ W.heap.size → s.run P w = .ok a w' → Ran P G Q r w W a w' S := by
  induction h using TR.ind with
  | @pure r a b h =>
    intro w W a' w' hb hw h1 h2 hr
    simp only [Sem.run, Result.ok.injEq] at hr
    obtain ⟨rfl, rfl⟩ := hr
    exact ⟨fun es => ⟨r, b, W, #[], by simp [Sem.runT], Sub.refl r, hb, hw, Keeps.refl r W, Fresh.refl r w W, by simp, h, Nat.le_refl _⟩⟩
  | @load r ad AD k K ha _ ih =>
    intro w W a w' hb hw h1 h2 hr
    simp only [Sem.run] at hr
    cases hc : w.cell? ad with
    | some v =>
      obtain ⟨V, hV, hv⟩ := hw.cell ha hc
      simp only [hc] at hr
      refine (ih v V hv hb hw h1 h2 hr).step #[⟨.cell AD, false, false⟩] (fun es => by simp only [Sem.runT, hV]; simp; rfl) (Sub.refl _) (Keeps.refl _ _) (Fresh.refl _ _ _) (Nat.le_refl _) ?_
      intro x hx
      simp only [List.mem_toArray, List.mem_singleton] at hx
      subst hx
      cases ha using DR.cs with
      | mk o s hbB => exact ⟨⟨_, hbB⟩, rfl⟩
    | none =>
      obtain ⟨e, he⟩ := hw.far ha P (Mode.plain == Mode.atomic)
      simp only [hc, he] at hr
      cases hr
  | @store r ad AD v V k K ha hv _ ih =>
    intro w W a w' hb hw h1 h2 hr
    have key : (∀ c, v ≠ .agg c) → (∀ c, v ≠ .tuple c) → Ran P G Q r w W a w' (.store .plain AD V K) := by
      intro n1 n2
      have hV1 : ∀ c, V ≠ .agg c := by cases hv using VR.cs <;> simp_all
      have hV2 : ∀ c, V ≠ .tuple c := by cases hv using VR.cs <;> simp_all
      have e1 : (Sem.store .plain ad v k).run P w = match w.cell? ad with
          | some _ => if w.frozen? ad then .halt (.unsupported (.unsafePointer "a write to bytes that a string shares")) w else k.run P (w.setCell ad v)
          | none => match w.farStore P ad v (Mode.plain == Mode.atomic) with
            | .ok (w, _) => k.run P w
            | .error h => .halt h w := by
        cases v <;> first | rfl | exact absurd rfl (n1 _) | exact absurd rfl (n2 _)
      rw [e1] at hr
      cases hc : w.cell? ad with
      | none =>
        obtain ⟨e, he⟩ := hw.farS ha P v (Mode.plain == Mode.atomic)
        simp only [hc, he] at hr
        cases hr
      | some v0 =>
        obtain ⟨V0, hV0, _⟩ := hw.cell ha hc
        simp only [hc] at hr
        cases hf : w.frozen? ad with
        | true => simp [hf] at hr
        | false =>
          simp only [hf, Bool.false_eq_true, if_false] at hr
          refine (ih hb (hw.setCell hb ha hv) (by rw [setCell_size]; exact h1) (by rw [setCell_size]; exact h2) hr).step #[⟨.cell AD, true, false⟩] (fun es => ?_) (Sub.refl _) (Keeps.setCell ha W V) (Fresh.refl _ _ _) (by rw [setCell_size]; exact Nat.le_refl _) ?_
          · have hF : W.frozen? AD = false := by rw [hw.frozen ha, hf]
            cases V <;> first | exact absurd rfl (hV1 _) | exact absurd rfl (hV2 _) | (simp only [Sem.runT, hV0, hF]; simp; rfl)
          · intro x hx
            simp only [List.mem_toArray, List.mem_singleton] at hx
            subst hx
            cases ha using DR.cs with
            | mk o s hbB => exact ⟨⟨_, hbB⟩, rfl⟩
    cases v with
    | agg c => simp [Sem.run] at hr
    | tuple c => simp [Sem.run] at hr
    | _ => exact key (by simp) (by simp)
  | @new r o O k K ho _ ih =>
    intro w W a w' hb hw h1 h2 hr
    simp only [Sem.run] at hr
    refine (ih (plus r w.heap.size W.heap.size) w.heap.size W.heap.size (sub_plus _ _ _) (.inr ⟨rfl, rfl⟩) (hb.plus hw h1 h2) (hb.plus hw h1 h2) (hw.new ho) (by simp; omega) (by simp; omega) hr).step #[] (fun es => by simp [Sem.runT]) (sub_plus _ _ _) ?_ ?_ (by simp) (by simp)
    · refine ⟨by simp, fun B hB _ => ?_, rfl, rfl, rfl, Shaped.push W O⟩
      simp only
      rw [Array.getElem?_push_lt hB, Array.getElem?_eq_getElem hB]
    · rintro b B (x | ⟨rfl, rfl⟩)
      · exact .inl x
      · exact .inr ⟨Nat.le_refl _, Nat.le_refl _⟩
  | @shape r b B k K hbB _ ih =>
    intro w W a w' hb hw h1 h2 hr
    simp only [Sem.run] at hr
    refine (ih _ hb hw h1 h2 hr).step #[] (fun es => by simp [Sem.runT, hw.shape hbB]) (Sub.refl _) (Keeps.refl _ _) (Fresh.refl _ _ _) (Nat.le_refl _) (by simp)
  | @frozen r ad AD k K ha _ ih =>
    intro w W a w' hb hw h1 h2 hr
    simp only [Sem.run] at hr
    refine (ih _ hb hw h1 h2 hr).step #[] (fun es => by simp [Sem.runT, hw.frozen ha]) (Sub.refl _) (Keeps.refl _ _) (Fresh.refl _ _ _) (Nat.le_refl _) (by simp)
  | @getObj r b B k K hbB _ ih =>
    intro w W a w' hb hw h1 h2 hr
    obtain ⟨ob, OB, e1, e2, e3⟩ := hw.obj _ _ hbB
    simp only [Sem.run, e1] at hr
    cases e3 using OR.cs with
    | cells e f hc => cases hr
    | map n e he =>
      refine (ih _ _ (.map n e he) hb hw h1 h2 hr).step #[⟨.obj B, false, false⟩] (fun es => by simp only [Sem.runT, e2]; simp [Obj.isChan]) (Sub.refl _) (Keeps.refl _ _) (Fresh.refl _ _ _) (Nat.le_refl _) ?_
      intro x hx
      simp only [List.mem_toArray, List.mem_singleton] at hx
      subst hx
      exact ⟨⟨_, hbB⟩, rfl⟩
    | number l hn =>
      refine (ih _ _ (.number l hn) hb hw h1 h2 hr).step #[⟨.obj B, false, false⟩] (fun es => by simp only [Sem.runT, e2]; simp [Obj.isChan]) (Sub.refl _) (Keeps.refl _ _) (Fresh.refl _ _ _) (Nat.le_refl _) ?_
      intro x hx
      simp only [List.mem_toArray, List.mem_singleton] at hx
      subst hx
      exact ⟨⟨_, hbB⟩, rfl⟩
  | @setObj r b B o O k K hbB ho _ ih =>
    intro w W a w' hb hw h1 h2 hr
    obtain ⟨ob, OB, e1, e2, e3⟩ := hw.obj _ _ hbB
    simp only [Sem.run, e1] at hr
    cases e3 using OR.cs with
    | cells e f hc => cases hr
    | map n e he =>
      refine (ih hb (hw.setObj hb hbB ho) (by simpa using h1) (by simpa using h2) hr).step #[⟨.obj B, true, false⟩] (fun es => ?_) (Sub.refl _) (Keeps.setObj hbB W O (by rw [e2]; simp)) (Fresh.refl _ _ _) (by simp) ?_
      · have : O.isChan = false := by cases ho using OR.cs <;> rfl
        simp [Sem.runT, e2, this]
      · intro x hx
        simp only [List.mem_toArray, List.mem_singleton] at hx
        subst hx
        exact ⟨⟨_, hbB⟩, rfl⟩
    | number l hn =>
      refine (ih hb (hw.setObj hb hbB ho) (by simpa using h1) (by simpa using h2) hr).step #[⟨.obj B, true, false⟩] (fun es => ?_) (Sub.refl _) (Keeps.setObj hbB W O (by rw [e2]; simp)) (Fresh.refl _ _ _) (by simp) ?_
      · have : O.isChan = false := by cases ho using OR.cs <;> rfl
        simp [Sem.runT, e2, this]
      · intro x hx
        simp only [List.mem_toArray, List.mem_singleton] at hx
        subst hx
        exact ⟨⟨_, hbB⟩, rfl⟩
  | @choose r k K q _ ih =>
    intro w W a w' hb hw h1 h2 hr
    simp only [Sem.run] at hr
    by_cases hq : q.forced = true
    · simp only [hq, if_true] at hr
      exact (ih _ hb hw h1 h2 hr).step #[] (fun es => by simp [Sem.runT, hq]) (Sub.refl _) (Keeps.refl _ _) (Fresh.refl _ _ _) (Nat.le_refl _) (by simp)
    · simp only [hq] at hr
      have hw' : WR r { w with drawn := w.drawn + 1 } { W with drawn := W.drawn + 1 } := ⟨hw.obj, hw.tape, by simp [hw.drawn]⟩
      refine (ih _ hb hw' h1 h2 hr).step #[] (fun es => by simp [Sem.runT, hq, hw.tape, hw.drawn]) (Sub.refl _) ⟨Nat.le_refl _, fun _ _ _ => rfl, rfl, rfl, rfl, Shaped.refl W⟩ (Fresh.refl _ _ _) (Nat.le_refl _) (by simp)
  | @program r k K _ ih =>
    intro w W a w' hb hw h1 h2 hr
    simp only [Sem.run] at hr
    exact (ih hb hw h1 h2 hr).step #[] (fun es => by simp [Sem.runT]) (Sub.refl _) (Keeps.refl _ _) (Fresh.refl _ _ _) (Nat.le_refl _) (by simp)
  | @noRoom r k K _ ih =>
    intro w W a w' hb hw h1 h2 hr
    simp only [Sem.run] at hr
    refine (ih hb hw h1 h2 hr).step #[⟨.mark .noRoom, false, true⟩] (fun es => by simp [Sem.runT]) (Sub.refl _) (Keeps.refl _ _) (Fresh.refl _ _ _) (Nat.le_refl _) ?_
    intro x hx
    simp only [List.mem_toArray, List.mem_singleton] at hx
    subst hx
    trivial
  | halt h =>
    intro w W a w' hb hw h1 h2 hr
    simp [Sem.run] at hr

/-- The first run stops short by a panic, or where the model knows no way on. -/
theorem TR.halts {P : Program} {G : Nat} {α β : Type} {Q : Ren → α → β → Prop} {r : Ren} {s : Sem α} {S : Sem β} (h : TR P G Q r s S) :
    ∀ {w W : World} {x : Halt} {w' : World}, Bi G r → WR r w W → G ≤ w.heap.size → G ≤ W.heap.size → s.run P w = .halt x w' → HaltOk x := by
  induction h using TR.ind with
  | pure h =>
    intro w W a' w' hb hw h1 h2 hr
    simp [Sem.run] at hr
  | @load r ad AD k K ha _ ih =>
    intro w W a w' hb hw h1 h2 hr
    simp only [Sem.run] at hr
    cases hc : w.cell? ad with
    | some v =>
      obtain ⟨V, hV, hv⟩ := hw.cell ha hc
      simp only [hc] at hr
      exact ih v V hv hb hw h1 h2 hr
    | none =>
      cases ha using DR.cs with
      | mk o s hbB =>
        obtain ⟨ob, OB, e1, e2, e3⟩ := hw.obj _ _ hbB
        cases e3 using OR.cs <;> simp [hc, World.farLoad, World.noCell, e1] at hr <;> (obtain ⟨rfl, _⟩ := hr; trivial)
  | @store r ad AD v V k K ha hv _ ih =>
    intro w W a w' hb hw h1 h2 hr
    have key : (∀ c, v ≠ .agg c) → (∀ c, v ≠ .tuple c) → HaltOk a := by
      intro n1 n2
      have e1 : (Sem.store .plain ad v k).run P w = match w.cell? ad with
          | some _ => if w.frozen? ad then .halt (.unsupported (.unsafePointer "a write to bytes that a string shares")) w else k.run P (w.setCell ad v)
          | none => match w.farStore P ad v (Mode.plain == Mode.atomic) with
            | .ok (w, _) => k.run P w
            | .error h => .halt h w := by
        cases v <;> first | rfl | exact absurd rfl (n1 _) | exact absurd rfl (n2 _)
      rw [e1] at hr
      cases hc : w.cell? ad with
      | none =>
        cases ha using DR.cs with
        | mk o s hbB =>
          obtain ⟨ob, OB, e1, e2, e3⟩ := hw.obj _ _ hbB
          cases e3 using OR.cs <;> simp [hc, World.farStore, World.noCell, e1] at hr <;> (obtain ⟨rfl, _⟩ := hr; trivial)
      | some v0 =>
        simp only [hc] at hr
        cases hf : w.frozen? ad with
        | true =>
          simp [hf] at hr
          obtain ⟨rfl, _⟩ := hr
          trivial
        | false =>
          simp only [hf, Bool.false_eq_true, if_false] at hr
          exact ih hb (hw.setCell hb ha hv) (by rw [setCell_size]; exact h1) (by rw [setCell_size]; exact h2) hr
    cases v with
    | agg c => simp [Sem.run] at hr; obtain ⟨rfl, _⟩ := hr; trivial
    | tuple c => simp [Sem.run] at hr; obtain ⟨rfl, _⟩ := hr; trivial
    | _ => exact key (by simp) (by simp)
  | @new r o O k K ho _ ih =>
    intro w W a w' hb hw h1 h2 hr
    simp only [Sem.run] at hr
    exact ih (plus r w.heap.size W.heap.size) w.heap.size W.heap.size (sub_plus _ _ _) (.inr ⟨rfl, rfl⟩) (hb.plus hw h1 h2) (hb.plus hw h1 h2) (hw.new ho) (by simp; omega) (by simp; omega) hr
  | @shape r b B k K hbB _ ih =>
    intro w W a w' hb hw h1 h2 hr
    simp only [Sem.run] at hr
    exact ih _ hb hw h1 h2 hr
  | @frozen r ad AD k K ha _ ih =>
    intro w W a w' hb hw h1 h2 hr
    simp only [Sem.run] at hr
    exact ih _ hb hw h1 h2 hr
  | @getObj r b B k K hbB _ ih =>
    intro w W a w' hb hw h1 h2 hr
    obtain ⟨ob, OB, e1, e2, e3⟩ := hw.obj _ _ hbB
    simp only [Sem.run, e1] at hr
    cases e3 using OR.cs with
    | cells e f hc => simp only [Result.halt.injEq] at hr; obtain ⟨rfl, _⟩ := hr; trivial
    | map n e he => exact ih _ _ (.map n e he) hb hw h1 h2 hr
    | number l hn => exact ih _ _ (.number l hn) hb hw h1 h2 hr
  | @setObj r b B o O k K hbB ho _ ih =>
    intro w W a w' hb hw h1 h2 hr
    obtain ⟨ob, OB, e1, e2, e3⟩ := hw.obj _ _ hbB
    simp only [Sem.run, e1] at hr
    cases e3 using OR.cs with
    | cells e f hc => simp only [Result.halt.injEq] at hr; obtain ⟨rfl, _⟩ := hr; trivial
    | map n e he => exact ih hb (hw.setObj hb hbB ho) (by simpa using h1) (by simpa using h2) hr
    | number l hn => exact ih hb (hw.setObj hb hbB ho) (by simpa using h1) (by simpa using h2) hr
  | @choose r k K q _ ih =>
    intro w W a w' hb hw h1 h2 hr
    simp only [Sem.run] at hr
    by_cases hq : q.forced = true
    · simp only [hq, if_true] at hr
      exact ih _ hb hw h1 h2 hr
    · simp only [hq] at hr
      have hw' : WR r { w with drawn := w.drawn + 1 } { W with drawn := W.drawn + 1 } := ⟨hw.obj, hw.tape, by simp [hw.drawn]⟩
      exact ih _ hb hw' h1 h2 hr
  | @program r k K _ ih =>
    intro w W a w' hb hw h1 h2 hr
    simp only [Sem.run] at hr
    exact ih hb hw h1 h2 hr
  | @noRoom r k K _ ih =>
    intro w W a w' hb hw h1 h2 hr
    simp only [Sem.run] at hr
    exact ih hb hw h1 h2 hr
  | halt h =>
    intro w W a w' hb hw h1 h2 hr
    simp only [Sem.run, Result.halt.injEq] at hr
    exact hr.1 ▸ h

end Go.Proofs.Ytgpplekabohneaa.Co

namespace Go.Proofs.Ytgpplekabohneaa.Co
open Go

section
variable {P : Program} {G : Nat} {r : Ren}

/-- Both yield the same. -/
abbrev TE (P : Program) (G : Nat) (r : Ren) {α : Type} (s S : Sem α) : Prop := TR P G (fun r' (a b : α) => r' = r ∧ a = b) r s S
/-- Both yield values that correspond; nothing new is made. -/
abbrev TV (P : Program) (G : Nat) (r : Ren) (s S : Sem Value) : Prop := TR P G (fun r' a b => r' = r ∧ VR r a b) r s S
/-- Both yield values that correspond. -/
abbrev TN (P : Program) (G : Nat) (r : Ren) (s S : Sem Value) : Prop := TR P G (fun r' a b => VR r' a b) r s S

theorem TV.tn {s S : Sem Value} (h : TV P G r s S) : TN P G r s S := TR.mono h fun r' a b _ => by rintro ⟨rfl, h⟩; exact h

theorem te_pure {α : Type} (a : α) : TE P G r (pure a) (pure a) := .pure ⟨rfl, rfl⟩
theorem te_stuck {α β : Type} {Q : Ren → α → β → Prop} (why : String) (S : Sem β) : TR P G Q r (stuck why) S := .halt trivial
theorem te_unsup {α β : Type} {Q : Ren → α → β → Prop} {u : Unsupported} (hu : ∀ g, u ≠ .initOrder g) (S : Sem β) : TR P G Q r (unsupported u) S := by
  refine .halt ?_
  cases u <;> first | trivial | exact absurd rfl (hu _)
theorem te_panic {α β : Type} {Q : Ren → α → β → Prop} (v : Value) (S : Sem β) : TR P G Q r (goPanic v) S := .halt trivial

theorem te_underlying' (t : TypeId) : TR P G (fun r' a b => r' = r ∧ a = b ∧ P.underlying t = some a) r (underlying t) (underlying t) := by
  refine .program ?_
  cases h : P.underlying t with
  | some d => simp only [Sem.bind, h]; exact .pure ⟨rfl, rfl, rfl⟩
  | none => simp only [Sem.bind, h]; exact te_stuck _ _

theorem te_typeInfo' (t : TypeId) : TR P G (fun r' a b => r' = r ∧ a = b ∧ P.info? t = some a) r (typeInfo t) (typeInfo t) := by
  refine .program ?_
  cases h : P.info? t with
  | some d => simp only [Sem.bind, h]; exact .pure ⟨rfl, rfl, rfl⟩
  | none => simp only [Sem.bind, h]; exact te_stuck _ _

theorem te_underlying (t : TypeId) : TE P G r (underlying t) (underlying t) := TR.mono (te_underlying' t) fun _ _ _ _ h => ⟨h.1, h.2.1⟩
theorem te_typeInfo (t : TypeId) : TE P G r (typeInfo t) (typeInfo t) := TR.mono (te_typeInfo' t) fun _ _ _ _ h => ⟨h.1, h.2.1⟩

theorem te_sizeOf (hB : Bi G r) (t : TypeId) : TE P G r (sizeOf t) (sizeOf t) :=
  TR.bindS hB (te_typeInfo t) (by rintro i _ rfl; exact te_pure _)

/-- The type's zero value has no address in it. -/
def ZeroFlat (P : Program) (t : TypeId) : Prop := ∀ i v, P.info? t = some i → i.zero = some v → ∀ r, VR r v v

theorem tv_zeroValue (hB : Bi G r) {t : TypeId} (hz : ZeroFlat P t) : TR P G (fun r' a b => r' = r ∧ a = b ∧ VR r a b) r (zeroValue t) (zeroValue t) := by
  refine TR.bindS (Q := fun a b => a = b ∧ P.info? t = some a) hB (te_typeInfo' t) ?_
  rintro i _ ⟨rfl, hi⟩
  cases h0 : i.zero with
  | some v => exact .pure ⟨rfl, rfl, hz i v hi h0 r⟩
  | none => exact te_unsup (by simp) _

theorem te_isAgg (hB : Bi G r) (t : TypeId) : TE P G r (isAgg t) (isAgg t) :=
  TR.bindS hB (te_underlying t) (by rintro d _ rfl; cases d <;> exact te_pure _)

theorem DR.add {a A : Addr} (h : DR r a A) (n : Nat) : DR r (a.add n) (A.add n) := by
  cases h using DR.cs with
  | mk o s hb =>
    unfold Addr.add
    split
    · exact .mk o s hb
    · exact .mk _ _ hb

theorem tv_load {a A : Addr} (h : DR r a A) : TV P G r (load a) (load A) := .load h fun _ _ hv => .pure ⟨rfl, hv⟩

theorem AR.push {c C : Array Value} (h : AR r c C) {v V : Value} (hv : VR r v V) : AR r (c.push v) (C.push V) := by
  refine ⟨by simp [h.1], fun i h1 h2 => ?_⟩
  by_cases e : i < c.size
  · rw [Array.getElem_push_lt e, Array.getElem_push_lt (h.1 ▸ e)]; exact h.2 i e _
  · have e1 : i = c.size := by simp at h1; omega
    subst e1
    have e2 : C.size = c.size := h.1.symm
    simp only [Array.getElem_push_eq]
    have : (C.push V)[c.size] = V := by simp [← e2]
    rw [this]; exact hv

theorem AR.empty : AR r #[] #[] := ⟨rfl, fun i h => by simp at h⟩

theorem tr_loadCellsFrom (hB : Bi G r) {a A : Addr} (h : DR r a A) (n : Nat) : ∀ (i : Nat) {c C : Array Value}, AR r c C →
    TR P G (fun r' x y => r' = r ∧ AR r x y ∧ x.size = c.size + n) r (loadCellsFrom a i n c) (loadCellsFrom A i n C) := by
  induction n with
  | zero => intro i c C hc; exact .pure ⟨rfl, hc, rfl⟩
  | succ n ih =>
    intro i c C hc
    refine TR.bindS hB (tv_load (h.add i)) fun v V hv => ?_
    refine TR.mono (ih (i + 1) (hc.push hv)) ?_
    rintro r' x y - ⟨h1, h2, h3⟩
    exact ⟨h1, h2, by simp at h3; omega⟩

theorem tr_loadCells (hB : Bi G r) {a A : Addr} (h : DR r a A) (n : Nat) : TR P G (fun r' x y => r' = r ∧ AR r x y ∧ x.size = n) r (loadCells a n) (loadCells A n) := by
  refine TR.mono (tr_loadCellsFrom hB h n 0 AR.empty) ?_
  rintro r' x y - ⟨h1, h2, h3⟩
  exact ⟨h1, h2, by simpa using h3⟩

theorem VR.ofAR {c C : Array Value} (h : AR r c C) : VR r (.agg c) (.agg C) := .agg h.1 h.2

theorem tv_loadVar (hB : Bi G r) (t : TypeId) {a A : Addr} (h : DR r a A) : TV P G r (loadVar t a) (loadVar t A) := by
  refine TR.bindS hB (te_isAgg hB t) ?_
  rintro b _ rfl
  cases b with
  | true =>
    refine TR.bindS hB (te_sizeOf hB t) ?_
    rintro n _ rfl
    refine TR.bindS hB (tr_loadCells hB h n) ?_
    rintro x y ⟨hx, _⟩
    exact .pure ⟨rfl, .ofAR hx⟩
  | false => exact tv_load h

theorem VR.cells {v V : Value} (h : VR r v V) : AR r v.cells V.cells := by
  have one : ∀ {x X : Value}, VR r x X → AR r #[x] #[X] := fun hx => ⟨rfl, fun i h1 h2 => by
    have : i = 0 := by simp at h1; omega
    subst this; exact hx⟩
  cases h using VR.cs with
  | agg h1 h2 => exact ⟨h1, h2⟩
  | bool b => exact one (.bool b)
  | int k n => exact one (.int k n)
  | nilPtr => exact one .nilPtr
  | ptr o s hb => exact one (.ptr o s hb)
  | nilSlice l c => exact one (.nilSlice l c)
  | slice o s l c hb => exact one (.slice o s l c hb)
  | nilMap => exact one .nilMap
  | map hb => exact one (.map hb)
  | func f => exact one (.func f)
  | nilFunc => exact one .nilFunc
  | nilIface => exact one .nilIface
  | tuple h1 h2 => exact one (.tuple h1 h2)

structure LR.Cl (r : Ren) (M : List Value → List Value → Prop) : Prop where
  all ::
  nil : M [] []
  cons : ∀ {v V : Value} {l L : List Value}, VR r v V → M l L → M (v :: l) (V :: L)
/-- Lists of values that correspond. -/
def LR (r : Ren) (x : List Value) (y : List Value) : Prop := ∀ M : List Value → List Value → Prop, LR.Cl r M → M x y
theorem LR.nil {r : Ren} : LR r [] [] := fun _ cl => cl.nil 
theorem LR.cons {r : Ren} {v V : Value} {l L : List Value} (h1 : VR r v V) (h2 : LR r l L) : LR r (v :: l) (V :: L) := fun M cl => cl.cons h1 (h2 M cl)
theorem LR.ind {r : Ren} {motive : (x : List Value) → (y : List Value) → LR r x y → Prop} (nil : motive [] [] LR.nil)
    (cons : ∀ {v V : Value} {l L : List Value} (h1 : VR r v V) (h2 : LR r l L), motive l L h2 → motive (v :: l) (V :: L) (LR.cons h1 h2)) {x : List Value} {y : List Value} (t : LR r x y) : motive x y t :=
  (t (fun x y => LR r x y ∧ ∀ h : LR r x y, motive x y h) ⟨⟨LR.nil , fun _ => nil ⟩,
    fun h1 h2 => ⟨LR.cons h1 h2.1, fun _ => cons h1 h2.1 (h2.2 _)⟩⟩).2 t
theorem LR.cs {r : Ren} {motive : (x : List Value) → (y : List Value) → LR r x y → Prop} {x : List Value} {y : List Value} (t : LR r x y) (nil : motive [] [] LR.nil)
    (cons : ∀ {v V : Value} {l L : List Value} (h1 : VR r v V) (h2 : LR r l L), motive (v :: l) (V :: L) (LR.cons h1 h2)) : motive x y t :=
  LR.ind (motive := motive) nil (fun h1 h2 _ => cons h1 h2) t

theorem AR.list {c C : Array Value} (h : AR r c C) : LR r c.toList C.toList := by
  obtain ⟨l⟩ := c
  obtain ⟨L⟩ := C
  obtain ⟨h1, h2⟩ := h
  simp only [List.size_toArray] at h1
  simp only [List.size_toArray, List.getElem_toArray] at h2
  show LR r l L
  induction l generalizing L with
  | nil => cases L with
    | nil => exact .nil
    | cons _ _ => simp at h1
  | cons v l ih =>
    cases L with
    | nil => simp at h1
    | cons V L =>
      refine .cons (h2 0 (by simp) (by simp)) (ih L (by simpa using h1) fun i a b => ?_)
      have := h2 (i + 1) (by simpa using a) (by simpa using b)
      simpa using this

theorem te_storeCells {a A : Addr} (h : DR r a A) {l L : List Value} (hl : LR r l L) : ∀ i, TE P G r (storeCells a l i) (storeCells A L i) := by
  induction hl using LR.ind with
  | nil => intro i; exact te_pure ()
  | cons hv _ ih => intro i; exact .store (h.add i) hv (ih (i + 1))

theorem te_storeVar (hB : Bi G r) (t : TypeId) {a A : Addr} (h : DR r a A) {v V : Value} (hv : VR r v V) : TE P G r (storeVar t a v) (storeVar t A V) := by
  refine TR.bindS hB (te_sizeOf hB t) ?_
  rintro n _ rfl
  have hc := hv.cells
  by_cases e : v.cells.size ≠ n
  · rw [if_pos e]
    exact te_stuck _ _
  · have e' : ¬ V.cells.size ≠ n := by rw [← hc.1]; exact e
    rw [if_neg e, if_neg e']
    exact te_storeCells h hc.list 0

theorem tr_newRow (e : TypeId) {c C : Array Value} (h : AR r c C) : TR P G (fun r' a A => DR r' a A) r (newRow e c) (newRow e C) :=
  .new (.cells e _ h) fun _ _ _ _ hn _ => .pure (.mk 0 none hn)

theorem tr_newVar (t : TypeId) {v V : Value} (h : VR r v V) : TR P G (fun r' a A => DR r' a A) r (newVar t v) (newVar t V) := tr_newRow t h.cells

theorem VR.ofDR {a A : Addr} (h : DR r a A) : VR r (.pointer (some a)) (.pointer (some A)) := by
  cases h using DR.cs with
  | mk o s hb => exact .ptr o s hb

theorem AR.extract {c C : Array Value} (h : AR r c C) (i j : Nat) : AR r (c.extract i j) (C.extract i j) := by
  refine ⟨by simp [h.1], fun k h1 h2 => ?_⟩
  simp only [Array.getElem_extract]
  exact h.2 _ _ _

theorem tv_part (hB : Bi G r) (t : TypeId) {c C : Array Value} (h : AR r c C) (off : Nat) : TV P G r (part t c off) (part t C off) := by
  refine TR.bindS hB (te_isAgg hB t) ?_
  rintro b _ rfl
  cases b with
  | true =>
    refine TR.bindS hB (te_sizeOf hB t) ?_
    rintro n _ rfl
    exact .pure ⟨rfl, .ofAR (h.extract _ _)⟩
  | false =>
    show TV P G r (match c[off]? with | some v => pure v | none => stuck _) (match C[off]? with | some v => pure v | none => stuck _)
    by_cases e : off < c.size
    · rw [Array.getElem?_eq_getElem e, Array.getElem?_eq_getElem (h.1 ▸ e)]
      exact .pure ⟨rfl, h.2 _ _ _⟩
    · rw [Array.getElem?_eq_none (by omega)]
      exact te_stuck _ _

theorem tr_sureAddr {v V : Value} (h : VR r v V) : TR P G (fun r' a A => r' = r ∧ DR r a A) r (Instr.sureAddr v) (Instr.sureAddr V) := by
  cases h using VR.cs with
  | ptr o s hb => exact .pure ⟨rfl, .mk o s hb⟩
  | _ => exact te_stuck _ _

theorem tv_loadAt (hB : Bi G r) (t : TypeId) {v V : Value} (h : VR r v V) : TV P G r (Instr.loadAt t v) (Instr.loadAt t V) :=
  TR.bindS hB (tr_sureAddr h) fun _ _ ha => tv_loadVar hB t ha

theorem te_storeAt (hB : Bi G r) (t : TypeId) {v V x X : Value} (h : VR r v V) (hx : VR r x X) : TE P G r (Instr.storeAt t v x) (Instr.storeAt t V X) :=
  TR.bindS hB (tr_sureAddr h) fun _ _ ha => te_storeVar hB t ha hx

theorem tn_alloc (hB : Bi G r) {t : TypeId} (hz : ZeroFlat P t) : TN P G r (Instr.alloc t true (.tuple #[])) (Instr.alloc t true (.tuple #[])) := by
  refine TR.bindS (Q := fun a b => a = b ∧ VR r a b) hB (tv_zeroValue hB hz) ?_
  rintro v _ ⟨rfl, hv⟩
  refine TR.bind hB (tr_newVar t hv) fun _ _ _ _ _ ha => ?_
  exact .pure (.ofDR ha)

theorem tn_box (hB : Bi G r) (t : TypeId) {v V : Value} (h : VR r v V) : TN P G r (Instr.box t v) (Instr.box t V) :=
  TR.bind hB (tr_newVar t h) fun _ _ _ _ _ ha => .pure (.ofDR ha)

theorem te_asIntOf {v V : Value} (h : VR r v V) : TE P G r (asIntOf v) (asIntOf V) := by
  cases h using VR.cs with
  | int k n => exact te_pure _
  | ptr o s hb => exact te_unsup (by simp) _
  | _ => exact te_stuck _ _

theorem te_asInt (hB : Bi G r) {v V : Value} (h : VR r v V) : TE P G r (asInt v) (asInt V) :=
  TR.bindS hB (te_asIntOf h) (by rintro a _ rfl; exact te_pure _)

theorem te_asBool {v V : Value} (h : VR r v V) : TE P G r (asBool v) (asBool V) := by
  cases h using VR.cs with
  | bool b => exact te_pure _
  | _ => exact te_stuck _ _

/-- A panic that makes nothing. -/
theorem te_rtPanic {α β : Type} {Q : Ren → α → β → Prop} {e : RuntimeError} (he : ∀ a b c d, e ≠ .typeAssertion a b c d) (he' : e ≠ .panicNil) : TR P G Q r (runtimePanic e) (runtimePanic e) := by
  refine .program ?_
  cases e with
  | typeAssertion a b c d => exact absurd rfl (he a b c d)
  | panicNil => exact absurd rfl he'
  | _ => exact te_panic _ _

theorem te_boundsE {α β : Type} {Q : Ren → α → β → Prop} (x y : Int) (s : Bool) (c : BoundsCode) : TR P G Q r (runtimePanic (.bounds x y s c)) (runtimePanic (.bounds x y s c)) := te_rtPanic (by simp) (by simp)

theorem te_bounds {α β : Type} {Q : Ren → α → β → Prop} (k : IntKind) (x y : Int) (c : BoundsCode) : TR P G Q r (boundsPanic k x y c) (boundsPanic k x y c) := by
  unfold boundsPanic
  simp only
  split
  · exact .choose _ fun _ => te_boundsE _ _ _ _
  · exact te_boundsE _ _ _ _
end

end Go.Proofs.Ytgpplekabohneaa.Co

namespace Go.Proofs.Ytgpplekabohneaa.Co
open Go

section
variable {P : Program} {G : Nat} {r : Ren}

theorem te_shape {b B : Nat} (h : r b B) : TE P G r (shape b) (shape B) := .shape h fun _ => te_pure _
theorem te_frozen {a A : Addr} (h : DR r a A) : TE P G r (frozen a) (frozen A) := .frozen h fun _ => te_pure _
theorem tr_getObj {b B : Nat} (h : r b B) : TR P G (fun r' o O => r' = r ∧ OR r o O) r (getObj b) (getObj B) := .getObj h fun _ _ ho => .pure ⟨rfl, ho⟩
theorem te_setObj {b B : Nat} (h : r b B) {o O : Obj} (ho : OR r o O) : TE P G r (setObj b o) (setObj B O) := .setObj h ho (te_pure ())

theorem DR.block {a A : Addr} (h : DR r a A) : r a.block A.block := by
  cases h using DR.cs with
  | mk o s hb => exact hb

theorem te_viewAt (hB : Bi G r) {b B : Nat} (h : r b B) : TR P G (fun r' x y => r' = r ∧ x = none ∧ y = none) r (viewAt b) (viewAt B) := by
  refine TR.bindS hB (te_shape h) ?_
  rintro s _ rfl
  cases s with
  | some s => exact .pure ⟨rfl, rfl, rfl⟩
  | none =>
    refine TR.bindS hB (tr_getObj h) fun o O ho => ?_
    cases ho using OR.cs <;> exact .pure ⟨rfl, rfl, rfl⟩

theorem te_noView (hB : Bi G r) {a A : Addr} (h : DR r a A) : TE P G r (noView a) (noView A) := by
  refine TR.bindS hB (te_viewAt hB h.block) ?_
  rintro _ _ ⟨rfl, rfl⟩
  exact te_pure ()

theorem te_stringish (hB : Bi G r) {a A : Addr} (h : DR r a A) : TE P G r (stringish a) (stringish A) := by
  refine TR.bindS hB (te_frozen h) ?_
  rintro b _ rfl
  cases b with
  | true => exact te_pure _
  | false =>
    refine TR.bindS hB (te_shape h.block) ?_
    rintro s _ rfl
    cases s with
    | none => exact te_pure _
    | some s => exact te_frozen (.mk _ _ h.block)

theorem te_none (hB : Bi G r) {a A : Addr} (h : DR r a A) : TE P G r (do pure ((← shape a.block) matches some (_, 0))) (do pure ((← shape A.block) matches some (_, 0))) := by
  refine TR.bindS hB (te_shape h.block) ?_
  rintro s _ rfl
  exact te_pure _

theorem DR.same (hB : Bi G r) {a A b B : Addr} (h : DR r a A) (h' : DR r b B) : (a == b) = (A == B) := by
  cases h using DR.cs with
  | mk o s hb =>
    cases h' using DR.cs with
    | mk o' s' hb' =>
      have := hB.iff hb hb'
      rw [Bool.eq_iff_iff]
      simp only [beq_iff_eq, Addr.mk.injEq, this]

theorem DR.sameBlock (hB : Bi G r) {a A b B : Addr} (h : DR r a A) (h' : DR r b B) : (a.block == b.block) = (A.block == B.block) := by
  have := hB.iff h.block h'.block
  rw [Bool.eq_iff_iff]
  simp only [beq_iff_eq, this]

theorem te_mayBeOne (hB : Bi G r) {a A b B : Addr} (h : DR r a A) (h' : DR r b B) : TE P G r (mayBeOne a b) (mayBeOne A B) := by
  unfold mayBeOne
  simp only
  refine TR.bindS hB (te_stringish hB h) ?_
  rintro x _ rfl
  refine TR.bindS hB (te_stringish hB h') ?_
  rintro y _ rfl
  refine TR.bindS hB (te_none hB h) ?_
  rintro z _ rfl
  refine TR.bindS hB (te_none hB h') ?_
  rintro u _ rfl
  exact te_pure _

theorem te_sameAddr (hB : Bi G r) {a A b B : Addr} (h : DR r a A) (h' : DR r b B) : TE P G r (sameAddr a b) (sameAddr A B) := by
  unfold sameAddr
  rw [← h.sameBlock hB h', ← h.same hB h']
  split
  · exact te_pure _
  · refine TR.bindS hB (te_frozen h) ?_
    rintro x _ rfl
    refine TR.bindS hB (te_frozen h') ?_
    rintro y _ rfl
    split
    · exact te_unsup (by simp) _
    · refine TR.bindS hB (te_noView hB h) ?_
      rintro _ _ -
      refine TR.bindS hB (te_noView hB h') ?_
      rintro _ _ -
      refine TR.bindS hB (te_mayBeOne hB h h') ?_
      rintro z _ rfl
      split
      · exact .choose _ fun _ => te_pure _
      · exact te_pure _

theorem tr_behind (hB : Bi G r) {a A : Addr} (h : DR r a A) : TR P G (fun r' x X => r' = r ∧ DR r x.1 X.1 ∧ x.2 = X.2) r (behindNumber a) (behindNumber A) := by
  unfold behindNumber numberAt
  refine TR.bindS (Q := fun o O => DR r (o.getD (a, false)).1 (O.getD (A, false)).1 ∧ (o.getD (a, false)).2 = (O.getD (A, false)).2) hB ?_ ?_
  · refine TR.bindS hB (te_shape h.block) ?_
    rintro s _ rfl
    cases s with
    | some s => exact .pure ⟨rfl, h, rfl⟩
    | none =>
      refine TR.bindS hB (tr_getObj h.block) fun o O ho => ?_
      cases ho using OR.cs with
      | number l ha => exact .pure ⟨rfl, ha, rfl⟩
      | cells e f hc => exact .pure ⟨rfl, h, rfl⟩
      | map n e he => exact .pure ⟨rfl, h, rfl⟩
  · rintro o O ⟨h1, h2⟩
    exact .pure ⟨rfl, h1, h2⟩

/-! ### loops -/
theorem te_forInList {α σ : Type} {l : List α} {f F : α → σ → Sem (ForInStep σ)} (hB : Bi G r) (h : ∀ a s, TE P G r (f a s) (F a s)) : ∀ s, TE P G r (forIn l s f) (forIn l s F) := by
  induction l with
  | nil => intro s; exact te_pure s
  | cons a l ih =>
    intro s
    simp only [List.forIn_cons]
    refine TR.bindS hB (h a s) ?_
    rintro x _ rfl
    cases x with
    | done b => exact te_pure b
    | yield b => exact ih b

theorem te_forInArr {α σ : Type} {l : Array α} {f F : α → σ → Sem (ForInStep σ)} (hB : Bi G r) (h : ∀ a s, TE P G r (f a s) (F a s)) (s : σ) : TE P G r (forIn l s f) (forIn l s F) := by
  rw [← Array.forIn_toList, ← Array.forIn_toList]
  exact te_forInList hB h s

theorem te_forInRange {σ : Type} {n : Nat} {f F : Nat → σ → Sem (ForInStep σ)} (hB : Bi G r) (h : ∀ a s, TE P G r (f a s) (F a s)) (s : σ) : TE P G r (forIn [0:n] s f) (forIn [0:n] s F) := by
  simp only [Std.Legacy.Range.forIn_eq_forIn_range']
  exact te_forInList hB h s

/-! ### equality -/
theorem te_equalIn (hG : P.globals.size ≤ G) (hB : Bi G r) : ∀ (d : Nat) (t : TypeId) {x X y Y : Value}, VR r x X → VR r y Y → TE P G r (Op.equalIn d t x y) (Op.equalIn d t X Y) := by
  intro d
  induction d with
  | zero => intro t x X y Y _ _; exact te_unsup (by simp) _
  | succ d ih =>
    intro t x X y Y hx hy
    unfold Op.equalIn
    refine TR.bindS (Q := fun a b => a = b) hB (te_underlying t) ?_
    rintro ty _ rfl
    cases ty with
    | bool => cases hx using VR.cs <;> first | (cases hy using VR.cs <;> first | exact te_pure _ | exact te_stuck _ _) | exact te_stuck _ _
    | string => cases hx using VR.cs <;> exact te_stuck _ _
    | float k => cases hx using VR.cs <;> exact te_stuck _ _
    | complex k => cases hx using VR.cs <;> exact te_stuck _ _
    | int k =>
      cases hx using VR.cs with
      | int k a =>
        cases hy using VR.cs with
        | int k' b =>
          show TE P G r (if k = k' then _ else _) (if k = k' then _ else _)
          split
          · exact te_pure _
          · exact te_stuck _ _
        | ptr o s hb => rcases a with (_ | a) | a <;> first | exact te_pure _ | exact te_unsup (by simp) _
        | nilPtr => rcases a with (_ | a) | a <;> exact te_unsup (by simp) _
        | _ => rcases a with (_ | a) | a <;> exact te_stuck _ _
      | ptr o s hb =>
        cases hy using VR.cs with
        | int k' b => rcases b with (_ | b) | b <;> first | exact te_pure _ | exact te_unsup (by simp) _
        | ptr o' s' hb' =>
          refine TR.bindS (Q := fun x X => DR r x.1 X.1 ∧ x.2 = X.2) hB (tr_behind hB (.mk o s hb)) ?_
          rintro ⟨a, l⟩ ⟨A, L⟩ ⟨ha, -⟩
          refine TR.bindS (Q := fun x X => DR r x.1 X.1 ∧ x.2 = X.2) hB (tr_behind hB (.mk o' s' hb')) ?_
          rintro ⟨b, l'⟩ ⟨B, L'⟩ ⟨hb2, -⟩
          refine .program ?_
          have e1 : (decide (a.block < P.globals.size)) = false := by have : G ≤ a.block := (hB.low _ _ ha.block).1; simp; omega
          have e2 : (decide (A.block < P.globals.size)) = false := by have : G ≤ A.block := (hB.low _ _ ha.block).2; simp; omega
          simp only [Sem.bind, e1, e2, Bool.and_false, Bool.false_eq_true, if_false]
          refine TR.bindS hB (te_typeInfo t) ?_
          rintro i _ rfl
          rw [← DR.same hB ha hb2]
          split
          · split
            · exact te_pure _
            · exact te_unsup (by simp) _
          · exact te_unsup (by simp) _
        | _ => exact te_unsup (by simp) _
      | nilPtr => cases hy using VR.cs <;> exact te_unsup (by simp) _
      | _ => cases hy using VR.cs <;> first | exact te_stuck _ _ | exact te_unsup (by simp) _
    | pointer e => 
      cases hx using VR.cs with
      | nilPtr => cases hy using VR.cs <;> first | exact te_pure _ | exact te_stuck _ _
      | ptr o s hb =>
        cases hy using VR.cs with
        | nilPtr => exact te_pure _
        | ptr o' s' hb' =>
          refine TR.bindS hB (te_sizeOf hB e) ?_
          rintro n _ rfl
          have e1 := DR.same hB (.mk o s hb) (.mk o' s' hb')
          split
          · exact te_sameAddr hB (.mk o s hb) (.mk o' s' hb')
          · rw [← e1]
            split
            · exact te_pure _
            · exact .choose _ fun _ => te_pure _
        | _ => exact te_stuck _ _
      | _ => exact te_stuck _ _
    | unsafePointer =>
      cases hx using VR.cs with
      | nilPtr => cases hy using VR.cs <;> first | exact te_pure _ | exact te_stuck _ _
      | ptr o s hb =>
        cases hy using VR.cs with
        | nilPtr => exact te_pure _
        | ptr o' s' hb' => exact te_sameAddr hB (.mk o s hb) (.mk o' s' hb')
        | _ => exact te_stuck _ _
      | _ => exact te_stuck _ _
    | struct fs =>
      cases hx using VR.cs with
      | agg h1 h2 =>
        cases hy using VR.cs with
        | agg h3 h4 =>
          dsimp only
          refine .program ?_
          simp only [Sem.bind]
          split
          · exact te_unsup (by simp) _
          · refine TR.bindS (Q := fun a b => a = b) hB (te_forInArr hB ?_ _) ?_
            · rintro f ⟨s, u⟩
              split
              · refine TR.bindS hB (tv_part hB f.type ⟨h1, h2⟩ f.offset) fun v V hv => ?_
                refine TR.bindS hB (tv_part hB f.type ⟨h3, h4⟩ f.offset) fun v' V' hv' => ?_
                refine TR.bindS hB (ih f.type hv hv') ?_
                rintro b _ rfl
                split
                · exact te_pure _
                · exact te_pure _
              · exact te_pure _
            · rintro ⟨o, u⟩ _ rfl
              cases o <;> exact te_pure _
        | _ => exact te_stuck _ _
      | _ => exact te_stuck _ _
    | array n e =>
      cases hx using VR.cs with
      | agg h1 h2 =>
        cases hy using VR.cs with
        | agg h3 h4 =>
          dsimp only
          refine TR.bindS hB (te_sizeOf hB e) ?_
          rintro k _ rfl
          refine TR.bindS (Q := fun a b => a = b) hB (te_forInRange hB ?_ _) ?_
          · rintro i ⟨s, u⟩
            refine TR.bindS hB (tv_part hB e ⟨h1, h2⟩ _) fun v V hv => ?_
            refine TR.bindS hB (tv_part hB e ⟨h3, h4⟩ _) fun v' V' hv' => ?_
            refine TR.bindS hB (ih e hv hv') ?_
            rintro b _ rfl
            split
            · exact te_pure _
            · exact te_pure _
          · rintro ⟨o, u⟩ _ rfl
            cases o <;> exact te_pure _
        | _ => exact te_stuck _ _
      | _ => exact te_stuck _ _
    | slice e => cases hx using VR.cs <;> first | (cases hy using VR.cs <;> first | exact te_pure _ | exact te_stuck _ _) | exact te_stuck _ _
    | map k e => cases hx using VR.cs <;> first | (cases hy using VR.cs <;> first | exact te_pure _ | exact te_stuck _ _) | exact te_stuck _ _
    | func ps rs v => cases hx using VR.cs <;> first | (cases hy using VR.cs <;> first | exact te_pure _ | exact te_stuck _ _) | exact te_stuck _ _
    | interface ms => cases hx using VR.cs <;> first | (cases hy using VR.cs <;> first | exact te_pure _ | exact te_stuck _ _) | exact te_stuck _ _
    | chan d e => cases hx using VR.cs <;> exact te_stuck _ _
    | invalid => exact te_stuck _ _
    | tuple _ => exact te_stuck _ _
    | named _ _ => exact te_stuck _ _

theorem te_equal (hG : P.globals.size ≤ G) (hB : Bi G r) (t : TypeId) {x X y Y : Value} (hx : VR r x X) (hy : VR r y Y) : TE P G r (Op.equal t x y) (Op.equal t X Y) := te_equalIn hG hB _ t hx hy

/-! ### maps -/
theorem te_checkKey (hB : Bi G r) (em : Bool) : ∀ (d : Nat) (t : TypeId) {x X : Value}, VR r x X → TE P G r (Instr.checkKey em d t x) (Instr.checkKey em d t X) := by
  intro d
  induction d with
  | zero => intro t x X _; exact te_unsup (by simp) _
  | succ d ih =>
    intro t x X hx
    unfold Instr.checkKey
    refine TR.bindS (Q := fun a b => a = b) hB (te_underlying t) ?_
    rintro ty _ rfl
    cases ty with
    | struct fs =>
      cases hx using VR.cs with
      | agg h1 h2 =>
        dsimp only
        refine TR.bindS hB (te_forInArr hB ?_ _) fun _ _ _ => te_pure _
        rintro f u
        split
        · refine TR.bindS hB (tv_part hB f.type ⟨h1, h2⟩ f.offset) fun v V hv => ?_
          refine TR.bindS hB (ih f.type hv) ?_
          rintro _ _ -
          exact te_pure _
        · exact te_pure _
      | _ => exact te_stuck _ _
    | array n e =>
      cases hx using VR.cs with
      | agg h1 h2 =>
        dsimp only
        refine TR.bindS hB (te_forInRange hB ?_ _) fun _ _ _ => te_pure _
        rintro i u
        refine TR.bindS hB (te_sizeOf hB e) ?_
        rintro k _ rfl
        refine TR.bindS hB (tv_part hB e ⟨h1, h2⟩ _) fun v V hv => ?_
        refine TR.bindS hB (ih e hv) ?_
        rintro _ _ -
        exact te_pure _
      | _ => exact te_stuck _ _
    | interface ms => cases hx using VR.cs <;> first | exact te_pure _ | exact te_stuck _ _
    | _ => cases hx using VR.cs <;> exact te_pure _

/-- What is found in two lists of entries that correspond. -/
def FoundR (r : Ren) : Option (Nat × Value) → Option (Nat × Value) → Prop
  | none, none => True
  | some (i, v), some (j, V) => i = j ∧ VR r v V
  | _, _ => False

structure LE.Cl (r : Ren) (M : List MapEntry → List MapEntry → Prop) : Prop where
  all ::
  nil : M [] []
  cons : ∀ {e E : MapEntry} {l L : List MapEntry}, ER r e E → M l L → M (e :: l) (E :: L)
def LE (r : Ren) (x : List MapEntry) (y : List MapEntry) : Prop := ∀ M : List MapEntry → List MapEntry → Prop, LE.Cl r M → M x y
theorem LE.nil {r : Ren} : LE r [] [] := fun _ cl => cl.nil 
theorem LE.cons {r : Ren} {e E : MapEntry} {l L : List MapEntry} (h1 : ER r e E) (h2 : LE r l L) : LE r (e :: l) (E :: L) := fun M cl => cl.cons h1 (h2 M cl)
theorem LE.ind {r : Ren} {motive : (x : List MapEntry) → (y : List MapEntry) → LE r x y → Prop} (nil : motive [] [] LE.nil)
    (cons : ∀ {e E : MapEntry} {l L : List MapEntry} (h1 : ER r e E) (h2 : LE r l L), motive l L h2 → motive (e :: l) (E :: L) (LE.cons h1 h2)) {x : List MapEntry} {y : List MapEntry} (t : LE r x y) : motive x y t :=
  (t (fun x y => LE r x y ∧ ∀ h : LE r x y, motive x y h) ⟨⟨LE.nil , fun _ => nil ⟩,
    fun h1 h2 => ⟨LE.cons h1 h2.1, fun _ => cons h1 h2.1 (h2.2 _)⟩⟩).2 t
theorem LE.ofArr {es ES : Array MapEntry} (h1 : es.size = ES.size) (h2 : ∀ (i : Nat) (h : i < es.size) (h' : i < ES.size), ER r es[i] ES[i]) : LE r es.toList ES.toList := by
  obtain ⟨l⟩ := es
  obtain ⟨L⟩ := ES
  simp only [List.size_toArray] at h1
  simp only [List.size_toArray, List.getElem_toArray] at h2
  show LE r l L
  induction l generalizing L with
  | nil => cases L with
    | nil => exact .nil
    | cons _ _ => simp at h1
  | cons v l ih =>
    cases L with
    | nil => simp at h1
    | cons V L =>
      refine .cons (h2 0 (by simp) (by simp)) (ih L (by simpa using h1) fun i a b => ?_)
      have := h2 (i + 1) (by simpa using a) (by simpa using b)
      simpa using this

theorem tr_findAsking (hG : P.globals.size ≤ G) (hB : Bi G r) (t : TypeId) {k K : Value} (hk : VR r k K) {l L : List MapEntry} (hl : LE r l L) : ∀ i, TR P G (fun r' a b => r' = r ∧ FoundR r a b) r (Instr.findAsking t k l i) (Instr.findAsking t K L i) := by
  induction hl using LE.ind with
  | nil => intro i; exact .pure ⟨rfl, trivial⟩
  | @cons e E l L he _ ih =>
    intro i
    cases he using ER.cs with
    | mk n h1 h2 =>
      unfold Instr.findAsking
      refine TR.bindS hB (te_equal hG hB t hk h1) ?_
      rintro b _ rfl
      cases b with
      | true => exact .pure ⟨rfl, rfl, h2⟩
      | false => exact ih (i + 1)

theorem sameNow_eq (d : TypeDesc) {k K v V : Value} (hk : VR r k K) (hv : VR r v V) : Instr.sameNow d K V = Instr.sameNow d k v := by
  cases hk using VR.cs <;> cases hv using VR.cs <;> cases d <;> rfl

theorem findNow_eq (d : TypeDesc) {k K : Value} (hk : VR r k K) {l L : List MapEntry} (hl : LE r l L) : ∀ i,
    (∀ x, Instr.findNow d k l i = some x → ∃ X, Instr.findNow d K L i = some X ∧ FoundR r x X) ∧ (Instr.findNow d k l i = none → Instr.findNow d K L i = none) := by
  induction hl using LE.ind with
  | nil =>
    intro i
    refine ⟨fun x hx => ?_, fun h => by cases h⟩
    simp only [Instr.findNow, Option.some.injEq] at hx
    subst hx
    exact ⟨none, rfl, trivial⟩
  | @cons e E l L he _ ih =>
    intro i
    cases he using ER.cs with
    | mk n h1 h2 =>
      unfold Instr.findNow
      rw [sameNow_eq d hk h1]
      cases hs : Instr.sameNow d k _ with
      | none => exact ⟨fun x hx => (by cases hx), fun _ => rfl⟩
      | some b =>
        cases b with
        | true =>
          refine ⟨fun x hx => ?_, fun h => by cases h⟩
          simp only [Option.some.injEq] at hx
          subst hx
          exact ⟨_, rfl, rfl, h2⟩
        | false => exact ih (i + 1)

theorem tr_findKey (hG : P.globals.size ≤ G) (hB : Bi G r) (t : TypeId) {k K : Value} (hk : VR r k K) {l L : List MapEntry} (hl : LE r l L) : TR P G (fun r' a b => r' = r ∧ FoundR r a b) r (Instr.findKey t k l) (Instr.findKey t K L) := by
  unfold Instr.findKey
  refine TR.bindS hB (te_underlying t) ?_
  rintro d _ rfl
  have h := findNow_eq d hk hl 0
  cases hf : Instr.findNow d k l 0 with
  | none =>
    rw [h.2 hf]
    exact tr_findAsking hG hB t hk hl 0
  | some x =>
    obtain ⟨X, hX, hr⟩ := h.1 x hf
    rw [hX]
    exact .pure ⟨rfl, hr⟩

theorem tv_lookup (hG : P.globals.size ≤ G) (hB : Bi G r) (t : TypeId) (hz : ∀ k e, P.underlying t = some (.map k e) → ZeroFlat P e) {x X i I : Value} (hx : VR r x X) (hi : VR r i I) (ok : Bool) :
    TV P G r (Instr.lookup t x i ok) (Instr.lookup t X I ok) := by
  unfold Instr.lookup
  refine TR.bindS (Q := fun a b => a = b ∧ P.underlying t = some a) hB (te_underlying' t) ?_
  rintro d _ ⟨rfl, hd⟩
  cases d with
  | map key elem =>
    have hz' := hz _ _ hd
    dsimp only
    have last : ∀ (b : Bool) {v V : Value}, VR r v V → VR r (if ok = true then Value.tuple #[v, .bool b] else v) (if ok = true then Value.tuple #[V, .bool b] else V) := by
      intro b v V hv
      cases ok with
      | false => exact hv
      | true =>
        refine .tuple rfl fun i h1 h2 => ?_
        simp at h1
        rcases i with _ | _ | i
        · exact hv
        · exact .bool b
        · omega
    cases hx using VR.cs with
    | nilMap =>
      refine TR.bindS (Q := fun (es ES : Array MapEntry) => es.isEmpty = ES.isEmpty ∧ LE r es.toList ES.toList) hB (.pure ⟨rfl, rfl, .nil⟩) ?_
      rintro es ES ⟨e1, e2⟩
      rw [← e1]
      refine TR.bindS hB (te_checkKey hB _ _ key hi) ?_
      rintro _ _ -
      refine TR.bindS hB (tr_findKey hG hB key hi e2) fun a b hab => ?_
      match a, b, hab with
      | none, none, _ =>
        refine TR.bindS (Q := fun a b => a = b ∧ VR r a b) hB (tv_zeroValue hB hz') ?_
        rintro v _ ⟨rfl, hv⟩
        exact .pure ⟨rfl, last false hv⟩
      | some (i, v), some (j, V), hab => exact .pure ⟨rfl, last true hab.2⟩
    | map hb =>
      refine TR.bindS hB (tr_getObj hb) fun o O ho => ?_
      cases ho using OR.cs with
      | map n h1 h2 =>
        refine TR.bindS (Q := fun (es ES : Array MapEntry) => es.isEmpty = ES.isEmpty ∧ LE r es.toList ES.toList) hB (.pure ⟨rfl, by simp [Array.isEmpty, h1], .ofArr h1 h2⟩) ?_
        rintro es ES ⟨e1, e2⟩
        rw [← e1]
        refine TR.bindS hB (te_checkKey hB _ _ key hi) ?_
        rintro _ _ -
        refine TR.bindS hB (tr_findKey hG hB key hi e2) fun a b hab => ?_
        match a, b, hab with
        | none, none, _ =>
          refine TR.bindS (Q := fun a b => a = b ∧ VR r a b) hB (tv_zeroValue hB hz') ?_
          rintro v _ ⟨rfl, hv⟩
          exact .pure ⟨rfl, last false hv⟩
        | some (i, v), some (j, V), hab => exact .pure ⟨rfl, last true hab.2⟩
      | _ => exact te_stuck _ _
    | _ => exact te_stuck _ _
  | _ => exact te_stuck _ _

theorem zip_all {n : Nat} (ih : ∀ {x X y Y : Value}, VR r x X → VR r y Y → Instr.sameBits n X Y = Instr.sameBits n x y) {l L : List Value} (h : LR r l L) : ∀ {m M : List Value}, LR r m M →
    ((L.zip M).all fun (x, y) => Instr.sameBits n x y) = ((l.zip m).all fun (x, y) => Instr.sameBits n x y) := by
  induction h using LR.ind with
  | nil => intro m M _; rfl
  | cons hv _ ih2 =>
    intro m M hm
    cases hm using LR.cs with
    | nil => rfl
    | cons hw hm => simp only [List.zip_cons_cons, List.all_cons, ih hv hw, ih2 hm]

theorem sameBits_ptr (hB : Bi G r) (n : Nat) {a A b B : Addr} (h : DR r a A) (h' : DR r b B) : Instr.sameBits n (.pointer (some A)) (.pointer (some B)) = Instr.sameBits n (.pointer (some a)) (.pointer (some b)) := by
  have := DR.same hB h h'
  cases n <;> (simp only [Instr.sameBits]; exact this.symm)

theorem sameBits_eq (hB : Bi G r) : ∀ (n : Nat) {x X y Y : Value}, VR r x X → VR r y Y → Instr.sameBits n X Y = Instr.sameBits n x y := by
  intro n
  induction n with
  | zero =>
    intro x X y Y hx hy
    cases hx using VR.cs <;> cases hy using VR.cs <;> first | rfl | skip
    rename_i o s hb _ _ o' s' hb'
    exact sameBits_ptr hB 0 (.mk o s hb) (.mk o' s' hb')
  | succ n ih =>
    intro x X y Y hx hy
    cases hx using VR.cs <;> cases hy using VR.cs <;> first | rfl | skip
    · rename_i o s hb _ _ o' s' hb'
      exact sameBits_ptr hB _ (.mk o s hb) (.mk o' s' hb')
    · rename_i cs ds h1 h2 cs' ds' h3 h4
      simp only [Instr.sameBits]
      rw [zip_all ih (AR.list ⟨h1, h2⟩) (AR.list ⟨h3, h4⟩), h1, h3]

theorem tv_keyThatStays (hB : Bi G r) {x X y Y : Value} (hx : VR r x X) (hy : VR r y Y) : TV P G r (Instr.keyThatStays x y) (Instr.keyThatStays X Y) := by
  unfold Instr.keyThatStays
  rw [sameBits_eq hB 10000 hx hy]
  split
  · exact .pure ⟨rfl, hy⟩
  · refine .choose _ fun n => .pure ⟨rfl, ?_⟩
    split
    · exact hy
    · exact hx

theorem te_mapUpdate (hG : P.globals.size ≤ G) (hB : Bi G r) (t : TypeId) {x X k K v V : Value} (hx : VR r x X) (hk : VR r k K) (hv : VR r v V) : TE P G r (Instr.mapUpdate t x k v) (Instr.mapUpdate t X K V) := by
  unfold Instr.mapUpdate
  refine TR.bindS (Q := fun a b => a = b) hB (te_underlying t) ?_
  rintro d _ rfl
  cases d with
  | map key elem =>
    dsimp only
    cases hx using VR.cs with
    | nilMap => exact te_rtPanic (by simp) (by simp)
    | map hb =>
      dsimp only
      refine TR.bindS hB (tr_getObj hb) fun o O ho => ?_
      cases ho using OR.cs with
      | @map es ES n h1 h2 =>
        dsimp only
        refine TR.bindS hB (te_checkKey hB _ _ key hk) ?_
        rintro _ _ -
        refine TR.bindS hB (tr_findKey hG hB key hk (.ofArr h1 h2)) fun a b hab => ?_
        match a, b, hab with
        | none, none, _ =>
          refine te_setObj hb (.map _ (by simp [h1]) fun i a b => ?_)
          by_cases e : i < es.size
          · rw [Array.getElem_push_lt e, Array.getElem_push_lt (h1 ▸ e)]; exact h2 i e _
          · have e1 : i = es.size := by simp at a; omega
            subst e1
            have e2 : (ES.push { key := K, val := V, born := n })[es.size] = { key := K, val := V, born := n } := by simp [h1]
            rw [e2]
            simp only [Array.getElem_push_eq]
            exact .mk n hk hv
        | some (i, v0), some (j, V0), hab =>
          obtain ⟨rfl, _⟩ := hab
          have hkey : VR r (((es[i]?).map (·.key)).getD k) (((ES[i]?).map (·.key)).getD K) := by
            by_cases e : i < es.size
            · rw [Array.getElem?_eq_getElem e, Array.getElem?_eq_getElem (h1 ▸ e)]
              have := h2 i e (h1 ▸ e)
              revert this
              generalize es[i] = ee
              generalize ES[i]'(h1 ▸ e) = EE
              intro this
              cases this using ER.cs with
              | mk n h _ => exact h
            · rw [Array.getElem?_eq_none (by omega), Array.getElem?_eq_none (by omega)]
              exact hk
          refine TR.bindS hB (tv_keyThatStays hB hkey hk) fun k' K' hk' => ?_
          refine te_setObj hb (.map _ (by simp [h1]) fun m a b => ?_)
          simp only [Array.getElem_modify]
          have hm := h2 m (by simpa using a) (by simpa using b)
          split
          · revert hm
            generalize es[m]'(by simpa using a) = ee
            generalize ES[m]'(by simpa using b) = EE
            intro hm
            cases hm using ER.cs with
            | mk n _ _ => exact .mk n hk' hv
          · exact hm
      | _ => exact te_stuck _ _
    | _ => exact te_stuck _ _
  | _ => exact te_stuck _ _

end
end Go.Proofs.Ytgpplekabohneaa.Co
