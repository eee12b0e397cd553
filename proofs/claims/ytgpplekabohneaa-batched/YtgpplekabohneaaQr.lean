/- A tenant and its maps. -/
import Derived.Test.YtgpplekabohneaaPr
import Derived.Maps.OwnSet
import Derived.Deep.RegionHeld3
import Derived.Deep.DrawnRows
namespace Go.Proofs.Ytgpplekabohneaa
section
open Go.RowKit
open Go.ChangeMaps (setBlock)

theorem findAsking_spec {P : Program} {w : World} {k : TypeId} {x : Value} : ∀ (l : List MapEntry) (i : Nat), (∀ e ∈ l, ∃ r : Bool, (Op.equal k x e.key).run P w = .ok r w ∧ (r = true ↔ e.key = x)) →
    ((Instr.findAsking k x l i).run P w = .ok none w ∧ ∀ e ∈ l, e.key ≠ x) ∨ ∃ j e, (Instr.findAsking k x l i).run P w = .ok (some (i + j, e.val)) w ∧ l[j]? = some e ∧ e.key = x
  | [], _, _ => .inl ⟨rfl, by simp⟩
  | e :: es, i, h => by
    obtain ⟨r, hr, hiff⟩ := h e (.head _)
    cases r with
    | true => exact .inr ⟨0, e, by simp [Instr.findAsking, hr, Result.andThen], rfl, hiff.1 rfl⟩
    | false =>
      have hne : e.key ≠ x := fun h' => by have := hiff.2 h'; cases this
      rcases findAsking_spec es (i + 1) (fun e' he' => h e' (.tail _ he')) with ⟨h1, h2⟩ | ⟨j, e', h1, h2, h3⟩
      · refine .inl ⟨by simp [Instr.findAsking, hr, Result.andThen, h1], fun e' he' => ?_⟩
        rcases List.mem_cons.1 he' with rfl | he'
        · exact hne
        · exact h2 e' he'
      · exact .inr ⟨j + 1, e', by simp [Instr.findAsking, hr, Result.andThen, h1]; omega, by simpa using h2, h3⟩

/-- what is asked of a map's type t, its keys' type k -/
structure KeyT (t k : TypeId) (K : Value → Prop) : Prop where
  ht : Try.prog.underlying t = some (.map k 107)
  hk : ∃ fs, Try.prog.underlying k = some (.struct fs)
  agg : ∀ x, K x → ∃ cs, x = .agg cs
  check : ∀ (w : World) (e : Bool) (x : Value), K x → (Instr.checkKey e 10000 k x).run Try.prog w = .ok () w
  eq : ∀ (w : World) (x y : Value), K x → K y → ∃ r : Bool, (Op.equal k x y).run Try.prog w = .ok r w ∧ (r = true ↔ y = x)

theorem find_struct {t k : TypeId} {K : Value → Prop} (H : KeyT t k K) (w : World) (x : Value) (hx : K x) (l : List MapEntry) (hl : ∀ e ∈ l, K e.key) :
    ((Instr.findKey k x l).run Try.prog w = .ok none w ∧ ∀ e ∈ l, e.key ≠ x) ∨ ∃ j e, (Instr.findKey k x l).run Try.prog w = .ok (some (j, e.val)) w ∧ l[j]? = some e ∧ e.key = x := by
  obtain ⟨fs, hfs⟩ := H.hk
  have hsame : (Instr.findKey k x l).run Try.prog w = (Instr.findAsking k x l).run Try.prog w := by
    cases l with
    | nil => simp [Instr.findKey, run_underlying hfs, Result.andThen, Instr.findNow, Instr.findAsking]
    | cons e es =>
      have hn : Instr.findNow (.struct fs) x (e :: es) 0 = none := by
        simp [Instr.findNow, Instr.sameNow]
      simp [Instr.findKey, run_underlying hfs, Result.andThen, hn]
  rw [hsame]
  rcases findAsking_spec (P := Try.prog) (w := w) (k := k) (x := x) l 0 (fun e he => H.eq w x e.key hx (hl e he)) with h | ⟨j, e, h1, h2, h3⟩
  · exact .inl h
  · exact .inr ⟨j, e, by simpa using h1, h2, h3⟩

theorem zero107 (w : World) : (zeroValue 107).run Try.prog w = .ok (.pointer none) w := by kernel_rfl

/-- 'v, ok := m[x]' -/
theorem run_look {t k : TypeId} {K : Value → Prop} (H : KeyT t k K) (w : World) (r : Nat) (es : Array MapEntry) (c : Nat) (x : Value) (hr : w.heap[r]? = some (.map es c)) (hx : K x) (hl : ∀ e ∈ es.toList, K e.key) :
    ((∀ e ∈ es.toList, e.key ≠ x) ∧ (Instr.lookup t (.map (some r)) x true).run Try.prog w = .ok (.tuple #[.pointer none, .bool false]) w) ∨
    ∃ e ∈ es.toList, e.key = x ∧ (Instr.lookup t (.map (some r)) x true).run Try.prog w = .ok (.tuple #[e.val, .bool true]) w := by
  rcases find_struct H w x hx es.toList hl with ⟨h1, h2⟩ | ⟨j, e, h1, h2, h3⟩
  · exact .inl ⟨h2, by simp [Instr.lookup, run_underlying H.ht, MapKept.run_getObj_map hr, H.check w _ x hx, h1, Result.andThen]⟩
  · exact .inr ⟨e, List.mem_of_getElem? h2, h3, by simp [Instr.lookup, run_underlying H.ht, MapKept.run_getObj_map hr, H.check w _ x hx, h1, Result.andThen]⟩

/-- 'm[x] = v' at a new key -/
theorem run_upd {t k : TypeId} {K : Value → Prop} (H : KeyT t k K) (w : World) (r : Nat) (es : Array MapEntry) (c : Nat) (x v : Value) (hr : w.heap[r]? = some (.map es c)) (hx : K x) (hl : ∀ e ∈ es.toList, K e.key) (hn : ∀ e ∈ es.toList, e.key ≠ x) :
    (Instr.mapUpdate t (.map (some r)) x v).run Try.prog w = .ok () (setBlock w r (.map (es.push { key := x, val := v, born := c }) (c + 1))) := by
  rcases find_struct H w x hx es.toList hl with ⟨h1, h2⟩ | ⟨j, e, h1, h2, h3⟩
  · simp [Instr.mapUpdate, run_underlying H.ht, MapKept.run_getObj_map hr, H.check w _ x hx, h1, MapKept.run_setObj_map _ hr, Result.andThen, setBlock]
  · exact absurd h3 (hn e (List.mem_of_getElem? h2))

/-- 'delete(m, x)' -/
theorem run_del {t k : TypeId} {K : Value → Prop} (H : KeyT t k K) (w : World) (r : Nat) (es : Array MapEntry) (c : Nat) (x : Value) (ty : TypeId) (hr : w.heap[r]? = some (.map es c)) (hx : K x) (hl : ∀ e ∈ es.toList, K e.key) (hin : ∃ e ∈ es.toList, e.key = x) :
    ∃ j e, es.toList[j]? = some e ∧ e.key = x ∧ (Builtin.delete_ #[t, k] ty #[.map (some r), x]).run Try.prog w = .ok (.tuple #[]) (setBlock w r (.map (es.eraseIdxIfInBounds j) c)) := by
  rcases find_struct H w x hx es.toList hl with ⟨h1, h2⟩ | ⟨j, e, h1, h2, h3⟩
  · obtain ⟨e, he, hk⟩ := hin
    exact absurd hk (h2 e he)
  · exact ⟨j, e, h2, h3, by simp [Builtin.delete_, run_underlying H.ht, MapKept.run_getObj_map hr, H.check w _ x hx, h1, MapKept.run_setObj_map _ hr, Result.andThen, setBlock]⟩

def KP (x : Value) : Prop := ∃ a b : Int, x = .agg #[.int .i64 a, .int .i64 b]
def KI (x : Value) : Prop := ∃ a b c : Int, x = .agg #[.int .i64 a, .int .i64 b, .int .i64 c]

theorem keyP : KeyT 101 106 KP where
  ht := Try.underlying101
  hk := ⟨_, Try.underlying106⟩
  agg := by rintro x ⟨a, b, rfl⟩; exact ⟨_, rfl⟩
  check := by
    rintro w e x ⟨a, b, rfl⟩
    cases e <;> kernel_rfl
  eq := by
    rintro w x y ⟨a, b, rfl⟩ ⟨c, d, rfl⟩
    refine ⟨_, eq106 9998 a b c d w, ?_⟩
    constructor
    · intro h
      simp at h
      rw [h.1, h.2]
    · intro h
      have := Value.agg.inj h
      simp at this
      simp [this]

theorem keyI : KeyT 102 148 KI where
  ht := Try.underlying102
  hk := ⟨_, Try.underlying148⟩
  agg := by rintro x ⟨a, b, c, rfl⟩; exact ⟨_, rfl⟩
  check := by
    rintro w e x ⟨a, b, c, rfl⟩
    cases e <;> kernel_rfl
  eq := by
    rintro w x y ⟨a, b, c, rfl⟩ ⟨a', b', c', rfl⟩
    refine ⟨_, eq148 9997 a b c a' b' c' w, ?_⟩
    constructor
    · intro h
      simp at h
      rw [h.1, h.2.1, h.2.2]
    · intro h
      have := Value.agg.inj h
      simp at this
      simp [this]
end

section

/-- a tenant: its face, its block of ports, its mappings -/
structure Tn where
  outer : Int
  low : Int
  high : Int
  maps : List Mp

def isP (p q : Int) (m : Mp) : Bool := m.proto == p && m.port == q
def isI (p a b : Int) (m : Mp) : Bool := m.proto == p && (m.ia == a && m.ip == b)

/-- the lowest of n ports from q on that is no mapping's -/
def freeF (l : List Mp) (p : Int) : Nat → Int → Option Int
  | 0, _ => none
  | n + 1, q => if (l.find? (isP p q)).isSome then freeF l p n (q + 1) else some q

/-- a mapping in the place of the one with its Proto and Port -/
def setM (l : List Mp) (m : Mp) : List Mp := l.map fun y => if isP m.proto m.port y then m else y

def inF (T : Tn) (p : Pk) : Tn × Pk × Int :=
  if p.da = T.outer then
    match T.maps.find? (isP p.proto p.dp) with
    | none => (T, pk0, 4)
    | some m =>
      if m.peers.contains p.sa then
        ({ T with maps := if p.proto = 2 then setM T.maps { marksF m p.out p.syn p.fin p.rst with idle := 0 } else T.maps }, { p with da := m.ia, dp := m.ip }, 0)
      else (T, pk0, 5)
  else (T, pk0, 4)

def useM (m : Mp) (p : Pk) : Mp :=
  if p.proto = 2 then marksF { m with peers := useF m.peers p.da, idle := 0 } p.out p.syn p.fin p.rst else { m with peers := useF m.peers p.da, idle := 0 }

def outW (T : Tn) (m : Mp) (p : Pk) : Tn × Pk × Int :=
  if p.da = T.outer then inF { T with maps := setM T.maps (useM m p) } { p with sa := T.outer, sp := m.port, out := false }
  else ({ T with maps := setM T.maps (useM m p) }, { p with sa := T.outer, sp := m.port }, 0)

def newM (proto ia ip port : Int) : Mp := ⟨proto, ia, ip, port, [], if proto = 2 then 1 else 0, 0, false, false⟩

def outF (T : Tn) (p : Pk) : Tn × Pk × Int :=
  match T.maps.find? (isI p.proto p.sa p.sp) with
  | some m => outW T m p
  | none =>
    if p.proto = 2 ∧ p.syn = false then (T, pk0, 2)
    else match freeF T.maps p.proto (T.high + 1 - T.low).toNat T.low with
      | none => (T, pk0, 3)
      | some q => outW { T with maps := T.maps ++ [newM p.proto p.sa p.sp q] } (newM p.proto p.sa p.sp q) p

def errOutF (T : Tn) (p : Pk) : Pk × Int :=
  match T.maps.find? (isI p.proto p.qda p.qdp) with
  | none => (pk0, 4)
  | some m => if m.peers.contains p.qsa then ({ p with sa := T.outer, qda := T.outer, qdp := m.port }, 0) else (pk0, 5)

def errInF (T : Tn) (p : Pk) : Pk × Int :=
  if p.qsa = T.outer then
    match T.maps.find? (isP p.proto p.qsp) with
    | none => (pk0, 4)
    | some m => if p.da = T.outer then (if m.peers.contains p.qda then ({ p with da := m.ia, qsa := m.ia, qsp := m.ip }, 0) else (pk0, 5)) else (pk0, 4)
  else (pk0, 4)

/-- P5 to P7 -/
def passF (T : Tn) (p : Pk) : Tn × Pk × Int :=
  if p.err then (if p.out then (T, errOutF T p) else (T, errInF T p)) else (if p.out then outF T p else inF T p)

/-- P3 -/
def tickM (n : Int) (m : Mp) : Option Mp := if m.idle + n < spanF m.proto m.st then some { m with idle := m.idle + n } else none

def tickF (n : Int) (T : Tn) : Tn := { T with maps := T.maps.filterMap (tickM n) }

/-- the mappings of one Proto by rising Port -/
def rowF (l : List Mp) (p : Int) : Nat → Int → List Mp
  | 0, _ => []
  | n + 1, q => (match l.find? (isP p q) with | some m => [m] | none => []) ++ rowF l p n (q + 1)

/-- P2: the table -/
def tableF (T : Tn) : List Mp :=
  rowF T.maps 1 (T.high + 1 - T.low).toNat T.low ++ (rowF T.maps 2 (T.high + 1 - T.low).toNat T.low ++ rowF T.maps 3 (T.high + 1 - T.low).toNat T.low)

/-- what holds of a mapping between the calls -/
def okM (T : Tn) (m : Mp) : Prop :=
  1 ≤ m.proto ∧ m.proto ≤ 3 ∧ T.low ≤ m.port ∧ m.port ≤ T.high ∧ m.peers.length ≤ 4 ∧ 0 ≤ m.idle ∧ m.idle < 1000

/-- two mappings share no end, no port -/
def apartM (a b : Mp) : Prop := ¬ (a.proto = b.proto ∧ a.port = b.port) ∧ ¬ (a.proto = b.proto ∧ a.ia = b.ia ∧ a.ip = b.ip)

structure GoodT (T : Tn) : Prop where
  low : 0 ≤ T.low
  high : T.high ≤ 65535
  span : T.high - T.low < 64
  le : T.low ≤ T.high
  ok : ∀ m ∈ T.maps, okM T m
  apart : T.maps.Pairwise apartM

theorem apart_mem {l : List Mp} (h : l.Pairwise apartM) {a b : Mp} (ha : a ∈ l) (hb : b ∈ l) (hk : (a.proto = b.proto ∧ a.port = b.port) ∨ (a.proto = b.proto ∧ a.ia = b.ia ∧ a.ip = b.ip)) : a = b := by
  induction l with
  | nil => cases ha
  | cons x r ih =>
    obtain ⟨h1, h2⟩ := List.pairwise_cons.1 h
    rcases List.mem_cons.1 ha with rfl | ha'
    · rcases List.mem_cons.1 hb with rfl | hb'
      · rfl
      · rcases hk with hk | hk
        · exact absurd hk (h1 b hb').1
        · exact absurd hk (h1 b hb').2
    · rcases List.mem_cons.1 hb with rfl | hb'
      · rcases hk with hk | hk
        · exact absurd ⟨hk.1.symm, hk.2.symm⟩ (h1 a ha').1
        · exact absurd ⟨hk.1.symm, hk.2.1.symm, hk.2.2.symm⟩ (h1 a ha').2
      · exact ih h2 ha' hb'

theorem isP_iff {p q : Int} {m : Mp} : isP p q m = true ↔ m.proto = p ∧ m.port = q := by simp [isP]
theorem isI_iff {p a b : Int} {m : Mp} : isI p a b m = true ↔ m.proto = p ∧ m.ia = a ∧ m.ip = b := by simp [isI]

theorem findP_of {l : List Mp} (h : l.Pairwise apartM) {m : Mp} (hm : m ∈ l) {p q : Int} (h1 : m.proto = p) (h2 : m.port = q) : l.find? (isP p q) = some m := by
  cases hf : l.find? (isP p q) with
  | none => exact absurd (isP_iff.2 ⟨h1, h2⟩) (by simpa using List.find?_eq_none.1 hf m hm)
  | some x =>
    have hx := isP_iff.1 (List.find?_some hf)
    rw [apart_mem h (List.mem_of_find?_eq_some hf) hm (.inl ⟨hx.1.trans h1.symm, hx.2.trans h2.symm⟩)]

theorem findI_of {l : List Mp} (h : l.Pairwise apartM) {m : Mp} (hm : m ∈ l) {p a b : Int} (h1 : m.proto = p) (h2 : m.ia = a) (h3 : m.ip = b) : l.find? (isI p a b) = some m := by
  cases hf : l.find? (isI p a b) with
  | none => exact absurd (isI_iff.2 ⟨h1, h2, h3⟩) (by simpa using List.find?_eq_none.1 hf m hm)
  | some x =>
    have hx := isI_iff.1 (List.find?_some hf)
    rw [apart_mem h (List.mem_of_find?_eq_some hf) hm (.inr ⟨hx.1.trans h1.symm, hx.2.1.trans h2.symm, hx.2.2.trans h3.symm⟩)]

/-- the same ends, the same port -/
def sameK (a b : Mp) : Prop := a.proto = b.proto ∧ a.ia = b.ia ∧ a.ip = b.ip ∧ a.port = b.port

theorem marksF_same (m : Mp) (a b c d : Bool) : sameK (marksF m a b c d) m := by
  unfold marksF
  dsimp only
  repeat' split
  all_goals exact ⟨rfl, rfl, rfl, rfl⟩

theorem marksF_idle (m : Mp) (a b c d : Bool) : (marksF m a b c d).idle = m.idle := by
  unfold marksF
  dsimp only
  repeat' split
  all_goals rfl

theorem useF_length (l : List Int) (a : Int) (h : l.length ≤ 4) : (useF l a).length ≤ 4 := by
  have h1 : (l.erase a).length ≤ l.length := List.length_erase_le
  unfold useF
  split
  · rw [List.length_eraseIdx]
    split <;> simp at * <;> omega
  · simp at *
    omega

theorem setM_apart {l : List Mp} {m : Mp} (h : l.Pairwise apartM) (hm : ∃ x ∈ l, sameK m x) : (setM l m).Pairwise apartM := by
  obtain ⟨x, hx, hs⟩ := hm
  unfold setM
  rw [List.pairwise_map]
  refine h.imp_of_mem ?_
  intro a b ha hb hab
  have key : ∀ y ∈ l, isP m.proto m.port y = true → y = x := fun y hy hp => by
    have := isP_iff.1 hp
    exact apart_mem h hy hx (.inl ⟨this.1.trans hs.1, this.2.trans hs.2.2.2⟩)
  obtain ⟨s1, s2, s3, s4⟩ := hs
  by_cases h1 : isP m.proto m.port a = true
  · by_cases h2 : isP m.proto m.port b = true
    · have ea := key a ha h1
      have eb := key b hb h2
      subst ea
      subst eb
      exact absurd ⟨rfl, rfl⟩ hab.1
    · rw [if_pos h1, if_neg h2]
      have ea := key a ha h1
      subst ea
      unfold apartM at *
      rw [s1, s2, s3, s4]
      exact hab
  · by_cases h2 : isP m.proto m.port b = true
    · rw [if_neg h1, if_pos h2]
      have eb := key b hb h2
      subst eb
      unfold apartM at *
      rw [s1, s2, s3, s4]
      exact hab
    · rw [if_neg h1, if_neg h2]
      exact hab

theorem GoodT.setM {T : Tn} (h : GoodT T) {m : Mp} (hm : ∃ x ∈ T.maps, sameK m x) (hp : m.peers.length ≤ 4) (h0 : 0 ≤ m.idle) (h1 : m.idle < 1000) : GoodT { T with maps := setM T.maps m } := by
  refine ⟨h.low, h.high, h.span, h.le, ?_, setM_apart h.apart hm⟩
  obtain ⟨x, hx, hs⟩ := hm
  intro y hy
  obtain ⟨z, hz, rfl⟩ := List.mem_map.1 hy
  split
  · obtain ⟨a1, a2, a3, a4, _⟩ := h.ok x hx
    obtain ⟨s1, s2, s3, s4⟩ := hs
    exact ⟨by omega, by omega, by show T.low ≤ m.port; omega, by show m.port ≤ T.high; omega, hp, h0, h1⟩
  · exact h.ok z hz
end

section
open Go.RowKit
open Go.ChangeMaps (setBlock)

/-- a mapping and where it lies -/
structure Cl where
  g : Nat
  sv : Value
  m : Mp

def kP (m : Mp) : Value := .agg #[.int .i64 m.proto, .int .i64 m.port]
def kI (m : Mp) : Value := .agg #[.int .i64 m.proto, .int .i64 m.ia, .int .i64 m.ip]
def ptrV (g : Nat) : Value := .pointer (some ⟨g, 0, none⟩)

theorem pw_eq {α : Type} {R : α → α → Prop} {l : List α} (h : l.Pairwise R) {x y : α} (hx : x ∈ l) (hy : y ∈ l) (h1 : ¬ R x y) (h2 : ¬ R y x) : x = y := by
  induction l with
  | nil => cases hx
  | cons a r ih =>
    obtain ⟨k1, k2⟩ := List.pairwise_cons.1 h
    rcases List.mem_cons.1 hx with rfl | hx'
    · rcases List.mem_cons.1 hy with rfl | hy'
      · rfl
      · exact absurd (k1 y hy') h1
    · rcases List.mem_cons.1 hy with rfl | hy'
      · exact absurd (k1 x hx') h2
      · exact ih k2 hx' hy'

/-- two mappings lie apart -/
def apartC (x y : Cl) : Prop := x.g ≠ y.g ∧ (∀ b, x.sv.ownBlock = some b → y.sv.ownBlock ≠ some b) ∧ apartM x.m y.m

structure TenR (w : World) (S : Nat → Prop) (g hp hi : Nat) (T : Tn) (L : List Cl) : Prop where
  sg : S g
  shp : S hp
  shi : S hi
  ne : hp ≠ hi
  bound : ∀ k, S k → k < w.heap.size
  blk : w.heap[g]? = some (.cells #[.int .i64 T.outer, .int .i64 T.low, .int .i64 T.high, .map (some hp), .map (some hi)] 104 (0, 0))
  mp : ∃ es c, w.heap[hp]? = some (.map es c) ∧ es.toList.map (fun e => (e.key, e.val)) = L.map (fun x => (kP x.m, ptrV x.g)) ∧ (∀ e ∈ es.toList, e.born < c) ∧ (es.toList.map (·.born)).Nodup
  mi : ∃ es c, w.heap[hi]? = some (.map es c) ∧ es.toList.map (fun e => (e.key, e.val)) = L.map (fun x => (kI x.m, ptrV x.g))
  maps : L.map (·.m) = T.maps
  mem : ∀ x ∈ L, Mem w x.g x.sv x.m ∧ S x.g ∧ ∀ b, x.sv.ownBlock = some b → S b
  apart : L.Pairwise apartC
  good : GoodT T

def grow (S : Nat → Prop) (w w' : World) : Nat → Prop := fun k => S k ∨ (w.heap.size ≤ k ∧ k < w'.heap.size)

theorem grow_trans {S : Nat → Prop} {a b c : World} (h1 : a.heap.size ≤ b.heap.size) (h2 : b.heap.size ≤ c.heap.size) : grow (grow S a b) b c = grow S a c := by
  funext k
  unfold grow
  refine propext ⟨?_, ?_⟩
  · rintro ((h | h) | h)
    · exact .inl h
    · exact .inr ⟨h.1, by omega⟩
    · exact .inr ⟨by omega, h.2⟩
  · rintro (h | h)
    · exact .inl (.inl h)
    · by_cases hk : k < b.heap.size
      · exact .inl (.inr ⟨h.1, hk⟩)
      · exact .inr ⟨by omega, h.2⟩

theorem Mem.keep {w w' : World} {g : Nat} {sv : Value} {m : Mp} {X : Nat → Prop} (h : Mem w g sv m) (hF : Fr X w w') (hg : ¬ X g) (hb : ∀ b, sv.ownBlock = some b → ¬ X b) : Mem w' g sv m :=
  ⟨hF.some h.1 hg, ownsRow_keep h.2 hF hb⟩

/-- a tenant stays while other blocks turn -/
theorem TenR.keep {w w' : World} {S X : Nat → Prop} {g hp hi : Nat} {T : Tn} {L : List Cl} (h : TenR w S g hp hi T L) (hF : Fr X w w') (hX : ∀ k, S k → ¬ X k) : TenR w' S g hp hi T L where
  sg := h.sg
  shp := h.shp
  shi := h.shi
  ne := h.ne
  bound := fun k hk => Nat.lt_of_lt_of_le (h.bound k hk) hF.size
  blk := hF.some h.blk (hX _ h.sg)
  mp := by
    obtain ⟨es, c, h1, h2⟩ := h.mp
    exact ⟨es, c, hF.some h1 (hX _ h.shp), h2⟩
  mi := by
    obtain ⟨es, c, h1, h2⟩ := h.mi
    exact ⟨es, c, hF.some h1 (hX _ h.shi), h2⟩
  maps := h.maps
  mem := fun x hx => ⟨(h.mem x hx).1.keep hF (hX _ (h.mem x hx).2.1) (fun b hb => hX _ ((h.mem x hx).2.2 b hb)), (h.mem x hx).2⟩
  apart := h.apart
  good := h.good

theorem TenR.mono {w : World} {S S' : Nat → Prop} {g hp hi : Nat} {T : Tn} {L : List Cl} (h : TenR w S g hp hi T L) (hS : ∀ k, S k → S' k) (hb : ∀ k, S' k → k < w.heap.size) : TenR w S' g hp hi T L :=
  { h with sg := hS _ h.sg, shp := hS _ h.shp, shi := hS _ h.shi, bound := hb, mem := fun x hx => ⟨(h.mem x hx).1, hS _ (h.mem x hx).2.1, fun b hb => hS _ ((h.mem x hx).2.2 b hb)⟩ }

theorem keysP {es : Array MapEntry} {L : List Cl} (h : es.toList.map (fun e => (e.key, e.val)) = L.map (fun x => (kP x.m, ptrV x.g))) : (∀ e ∈ es.toList, ∃ x ∈ L, e.key = kP x.m ∧ e.val = ptrV x.g) ∧ ∀ x ∈ L, ∃ e ∈ es.toList, e.key = kP x.m ∧ e.val = ptrV x.g := by
  constructor
  · intro e he
    have : (e.key, e.val) ∈ es.toList.map (fun e => (e.key, e.val)) := List.mem_map.2 ⟨e, he, rfl⟩
    rw [h] at this
    obtain ⟨x, hx, e'⟩ := List.mem_map.1 this
    exact ⟨x, hx, (Prod.mk.inj e').1.symm, (Prod.mk.inj e').2.symm⟩
  · intro x hx
    have : (kP x.m, ptrV x.g) ∈ L.map (fun x => (kP x.m, ptrV x.g)) := List.mem_map.2 ⟨x, hx, rfl⟩
    rw [← h] at this
    obtain ⟨e, he, e'⟩ := List.mem_map.1 this
    exact ⟨e, he, (Prod.mk.inj e').1, (Prod.mk.inj e').2⟩

theorem keysI {es : Array MapEntry} {L : List Cl} (h : es.toList.map (fun e => (e.key, e.val)) = L.map (fun x => (kI x.m, ptrV x.g))) : (∀ e ∈ es.toList, ∃ x ∈ L, e.key = kI x.m ∧ e.val = ptrV x.g) ∧ ∀ x ∈ L, ∃ e ∈ es.toList, e.key = kI x.m ∧ e.val = ptrV x.g := by
  constructor
  · intro e he
    have : (e.key, e.val) ∈ es.toList.map (fun e => (e.key, e.val)) := List.mem_map.2 ⟨e, he, rfl⟩
    rw [h] at this
    obtain ⟨x, hx, e'⟩ := List.mem_map.1 this
    exact ⟨x, hx, (Prod.mk.inj e').1.symm, (Prod.mk.inj e').2.symm⟩
  · intro x hx
    have : (kI x.m, ptrV x.g) ∈ L.map (fun x => (kI x.m, ptrV x.g)) := List.mem_map.2 ⟨x, hx, rfl⟩
    rw [← h] at this
    obtain ⟨e, he, e'⟩ := List.mem_map.1 this
    exact ⟨e, he, (Prod.mk.inj e').1, (Prod.mk.inj e').2⟩

theorem kP_iff {m : Mp} {p q : Int} : kP m = .agg #[.int .i64 p, .int .i64 q] ↔ m.proto = p ∧ m.port = q := by
  unfold kP
  constructor
  · intro h
    have := Value.agg.inj h
    simpa using this
  · rintro ⟨rfl, rfl⟩
    rfl

theorem kI_iff {m : Mp} {p a b : Int} : kI m = .agg #[.int .i64 p, .int .i64 a, .int .i64 b] ↔ m.proto = p ∧ m.ia = a ∧ m.ip = b := by
  unfold kI
  constructor
  · intro h
    have := Value.agg.inj h
    simpa using this
  · rintro ⟨rfl, rfl, rfl⟩
    rfl

/-- 't.byPort[portKey{p, q}]' -/
theorem TenR.lookP {w : World} {S : Nat → Prop} {g hp hi : Nat} {T : Tn} {L : List Cl} (h : TenR w S g hp hi T L) (p q : Int) :
    (T.maps.find? (isP p q) = none ∧ (Instr.lookup 101 (.map (some hp)) (.agg #[.int .i64 p, .int .i64 q]) true).run Try.prog w = .ok (.tuple #[.pointer none, .bool false]) w) ∨
    ∃ x ∈ L, T.maps.find? (isP p q) = some x.m ∧ (Instr.lookup 101 (.map (some hp)) (.agg #[.int .i64 p, .int .i64 q]) true).run Try.prog w = .ok (.tuple #[.pointer (some ⟨x.g, 0, none⟩), .bool true]) w := by
  obtain ⟨es, c, h1, h2, _⟩ := h.mp
  obtain ⟨k1, k2⟩ := keysP h2
  rcases run_look keyP w hp es c (.agg #[.int .i64 p, .int .i64 q]) h1 ⟨p, q, rfl⟩ (fun e he => by obtain ⟨x, _, hk, _⟩ := k1 e he; exact ⟨_, _, hk⟩) with ⟨hn, hr⟩ | ⟨e, he, hk, hr⟩
  · refine .inl ⟨List.find?_eq_none.2 (fun m hm => ?_), hr⟩
    rw [← h.maps] at hm
    obtain ⟨x, hx, rfl⟩ := List.mem_map.1 hm
    obtain ⟨e, he, hk, _⟩ := k2 x hx
    intro hp'
    exact hn e he (hk.trans (kP_iff.2 (isP_iff.1 hp')))
  · obtain ⟨x, hx, hk', hv⟩ := k1 e he
    rw [hv] at hr
    have hpq := kP_iff.1 (hk'.symm.trans hk)
    exact .inr ⟨x, hx, findP_of h.good.apart (by rw [← h.maps]; exact List.mem_map.2 ⟨x, hx, rfl⟩) hpq.1 hpq.2, hr⟩

/-- 't.byInside[insideKey{p, e}]' -/
theorem TenR.lookI {w : World} {S : Nat → Prop} {g hp hi : Nat} {T : Tn} {L : List Cl} (h : TenR w S g hp hi T L) (p a b : Int) :
    (T.maps.find? (isI p a b) = none ∧ (Instr.lookup 102 (.map (some hi)) (.agg #[.int .i64 p, .int .i64 a, .int .i64 b]) true).run Try.prog w = .ok (.tuple #[.pointer none, .bool false]) w) ∨
    ∃ x ∈ L, T.maps.find? (isI p a b) = some x.m ∧ (Instr.lookup 102 (.map (some hi)) (.agg #[.int .i64 p, .int .i64 a, .int .i64 b]) true).run Try.prog w = .ok (.tuple #[.pointer (some ⟨x.g, 0, none⟩), .bool true]) w := by
  obtain ⟨es, c, h1, h2⟩ := h.mi
  obtain ⟨k1, k2⟩ := keysI h2
  rcases run_look keyI w hi es c (.agg #[.int .i64 p, .int .i64 a, .int .i64 b]) h1 ⟨p, a, b, rfl⟩ (fun e he => by obtain ⟨x, _, hk, _⟩ := k1 e he; exact ⟨_, _, _, hk⟩) with ⟨hn, hr⟩ | ⟨e, he, hk, hr⟩
  · refine .inl ⟨List.find?_eq_none.2 (fun m hm => ?_), hr⟩
    rw [← h.maps] at hm
    obtain ⟨x, hx, rfl⟩ := List.mem_map.1 hm
    obtain ⟨e, he, hk, _⟩ := k2 x hx
    intro hp'
    exact hn e he (hk.trans (kI_iff.2 (isI_iff.1 hp')))
  · obtain ⟨x, hx, hk', hv⟩ := k1 e he
    rw [hv] at hr
    have hpq := kI_iff.1 (hk'.symm.trans hk)
    exact .inr ⟨x, hx, findI_of h.good.apart (by rw [← h.maps]; exact List.mem_map.2 ⟨x, hx, rfl⟩) hpq.1 hpq.2.1 hpq.2.2, hr⟩

theorem map_ne_cells {w : World} {a b : Nat} {es : Array MapEntry} {c : Nat} {cs : Array Value} {t : TypeId} {f : Nat × Nat} (h1 : w.heap[a]? = some (.map es c)) (h2 : w.heap[b]? = some (.cells cs t f)) : a ≠ b := by
  rintro rfl
  rw [h1] at h2
  cases h2

theorem cells_ne {w : World} {a b : Nat} {cs cs' : Array Value} {t t' : TypeId} {f f' : Nat × Nat} (h1 : w.heap[a]? = some (.cells cs t f)) (h2 : w.heap[b]? = some (.cells cs' t' f')) (ht : t ≠ t') : a ≠ b := by
  rintro rfl
  rw [h1] at h2
  cases h2
  exact ht rfl

theorem row_ne_map {w : World} {sv : Value} {n : Nat} {xs : List Value} (hown : w.ownsRow 0 3 1 sv n xs) {g : Nat} {es : Array MapEntry} {c : Nat} (hg : w.heap[g]? = some (.map es c)) : sv.ownBlock ≠ some g := by
  intro h
  rcases hown.2 with ⟨rfl, _⟩ | ⟨b, cap, cur, rfl, _, hb, _⟩
  · cases h
  · cases h
    rw [hg] at hb
    cases hb

/-- one mapping turns -/
theorem TenR.upd {w w' : World} {S : Nat → Prop} {g hp hi : Nat} {T : Tn} {L : List Cl} (h : TenR w S g hp hi T L) {x : Cl} (hx : x ∈ L) {sv' : Value} {m' : Mp} (hM : Mem w' x.g sv' m') (hs : sameK m' x.m)
    (hF : Fr (fun k => k = x.g ∨ x.sv.ownBlock = some k) w w') (hb : ∀ b, sv'.ownBlock = some b → x.sv.ownBlock = some b ∨ w.heap.size ≤ b) (hp4 : m'.peers.length ≤ 4) (h0 : 0 ≤ m'.idle) (h1 : m'.idle < 1000) :
    TenR w' (grow S w w') g hp hi { T with maps := setM T.maps m' } (L.map fun y => if y.g = x.g then ⟨x.g, sv', m'⟩ else y) := by
  obtain ⟨hxM, hxS, hxB⟩ := h.mem x hx
  have uniq : ∀ y ∈ L, y.g = x.g → y = x := fun y hy e => pw_eq h.apart hy hx (fun r => r.1 e) (fun r => r.1 e.symm)
  have uniqM : ∀ y ∈ L, isP m'.proto m'.port y.m = true ↔ y.g = x.g := fun y hy => by
    constructor
    · intro hp'
      have := isP_iff.1 hp'
      have e : y = x := pw_eq h.apart hy hx (fun r => r.2.2.1 ⟨this.1.trans hs.1, this.2.trans hs.2.2.2⟩) (fun r => r.2.2.1 ⟨(this.1.trans hs.1).symm, (this.2.trans hs.2.2.2).symm⟩)
      rw [e]
    · intro e
      rw [uniq y hy e]
      exact isP_iff.2 ⟨hs.1.symm, hs.2.2.2.symm⟩
  have hmx : ∃ z ∈ T.maps, sameK m' z := ⟨x.m, by rw [← h.maps]; exact List.mem_map.2 ⟨x, hx, rfl⟩, hs⟩
  have hkp : kP m' = kP x.m := by unfold kP; rw [hs.1, hs.2.2.2]
  have hki : kI m' = kI x.m := by unfold kI; rw [hs.1, hs.2.1, hs.2.2.1]
  have hlt : ∀ b, sv'.ownBlock = some b → b < w'.heap.size := fun b hb => (hM.2.lt b hb).2
  refine ⟨.inl h.sg, .inl h.shp, .inl h.shi, h.ne, ?_, ?_, ?_, ?_, ?_, ?_, ?_, h.good.setM hmx hp4 h0 h1⟩
  · rintro k (hk | hk)
    · exact Nat.lt_of_lt_of_le (h.bound k hk) hF.size
    · exact hk.2
  · refine hF.some h.blk ?_
    rintro (e | e)
    · exact cells_ne h.blk hxM.1 (by decide) e
    · exact row_ne hxM.2 h.blk (by decide) e
  · obtain ⟨es, c, k1, k2, k3⟩ := h.mp
    refine ⟨es, c, hF.some k1 ?_, ?_, k3⟩
    · rintro (e | e)
      · exact map_ne_cells k1 hxM.1 e
      · exact row_ne_map hxM.2 k1 e
    · rw [k2, List.map_map]
      refine List.map_congr_left (fun y hy => ?_)
      show _ = (fun x => (kP x.m, ptrV x.g)) (if y.g = x.g then (⟨x.g, sv', m'⟩ : Cl) else y)
      split
      · rename_i e
        rw [uniq y hy e, ← hkp]
      · rfl
  · obtain ⟨es, c, k1, k2⟩ := h.mi
    refine ⟨es, c, hF.some k1 ?_, ?_⟩
    · rintro (e | e)
      · exact map_ne_cells k1 hxM.1 e
      · exact row_ne_map hxM.2 k1 e
    · rw [k2, List.map_map]
      refine List.map_congr_left (fun y hy => ?_)
      show _ = (fun x => (kI x.m, ptrV x.g)) (if y.g = x.g then (⟨x.g, sv', m'⟩ : Cl) else y)
      split
      · rename_i e
        rw [uniq y hy e, ← hki]
      · rfl
  · show (L.map fun y => if y.g = x.g then (⟨x.g, sv', m'⟩ : Cl) else y).map (·.m) = setM T.maps m'
    unfold setM
    rw [← h.maps, List.map_map, List.map_map]
    refine List.map_congr_left (fun y hy => ?_)
    show (if y.g = x.g then (⟨x.g, sv', m'⟩ : Cl) else y).m = if isP m'.proto m'.port y.m then m' else y.m
    by_cases e : y.g = x.g
    · rw [if_pos e, if_pos ((uniqM y hy).2 e)]
    · rw [if_neg e, if_neg (fun e' => e ((uniqM y hy).1 e'))]
  · intro z hz
    obtain ⟨y, hy, rfl⟩ := List.mem_map.1 hz
    by_cases e : y.g = x.g
    · rw [if_pos e]
      refine ⟨hM, .inl hxS, fun b hb' => ?_⟩
      rcases hb b hb' with h' | h'
      · exact .inl (hxB b h')
      · exact .inr ⟨h', hlt b hb'⟩
    · rw [if_neg e]
      obtain ⟨y1, y2, y3⟩ := h.mem y hy
      have hyx : apartC y x ∨ apartC x y := by
        by_cases hr : apartC y x
        · exact .inl hr
        · by_cases hr' : apartC x y
          · exact .inr hr'
          · exact absurd (congrArg Cl.g (pw_eq h.apart hy hx hr hr')) e
      refine ⟨y1.keep hF ?_ ?_, .inl y2, fun b hb' => .inl (y3 b hb')⟩
      · rintro (e' | e')
        · exact e e'
        · exact row_ne hxM.2 y1.1 (by decide) e'
      · intro b hb'
        rintro (e' | e')
        · exact row_ne y1.2 hxM.1 (by decide) (e' ▸ hb')
        · rcases hyx with hr | hr
          · exact hr.2.1 b hb' e'
          · exact hr.2.1 b e' hb'
  · rw [List.pairwise_map]
    refine h.apart.imp_of_mem ?_
    intro a b ha hb' hab
    by_cases ea : a.g = x.g
    · have e1 := uniq a ha ea
      subst e1
      have eb : ¬ b.g = a.g := fun e => hab.1 e.symm
      rw [if_pos rfl, if_neg eb]
      refine ⟨hab.1, fun c hc => ?_, ?_⟩
      · rcases hb c hc with h' | h'
        · exact hab.2.1 c h'
        · intro hcb
          have := h.bound c ((h.mem b hb').2.2 c hcb)
          omega
      · show apartM m' b.m
        unfold apartM
        rw [hs.1, hs.2.1, hs.2.2.1, hs.2.2.2]
        exact hab.2.2
    · by_cases eb : b.g = x.g
      · have e1 := uniq b hb' eb
        subst e1
        rw [if_neg ea, if_pos rfl]
        refine ⟨hab.1, fun c hc hcs => ?_, ?_⟩
        · rcases hb c hcs with h' | h'
          · exact hab.2.1 c hc h'
          · have := h.bound c ((h.mem a ha).2.2 c hc)
            omega
        · show apartM a.m m'
          unfold apartM
          rw [hs.1, hs.2.1, hs.2.2.1, hs.2.2.2]
          exact hab.2.2
      · rw [if_neg ea, if_neg eb]
        exact hab
end

section
open Go.RowKit
open Go.ChangeMaps (setBlock)

theorem below_drewN {B : Nat} {a b : World} (h : Below B a b) (n : Nat) : Below B a (b.drewN n) := ⟨h.os, h.tape, h.output, h.size, h.block⟩
theorem Fr.drewN {X : Nat → Prop} {a b : World} (h : Fr X a b) (n : Nat) : Fr X a (b.drewN n) := ⟨h.os, h.tape, h.output, h.size, h.block⟩

theorem TenR.ofFind {w : World} {S : Nat → Prop} {g hp hi : Nat} {T : Tn} {L : List Cl} (h : TenR w S g hp hi T L) {f : Mp → Bool} {m : Mp} (hf : T.maps.find? f = some m) : ∃ x ∈ L, x.m = m := by
  have := List.mem_of_find?_eq_some hf
  rw [← h.maps] at this
  exact List.mem_map.1 this

theorem TenR.same {w : World} {S : Nat → Prop} {g hp hi : Nat} {T : Tn} {L : List Cl} (h : TenR w S g hp hi T L) {x y : Cl} (hx : x ∈ L) (hy : y ∈ L) (e : x.m = y.m) : x = y :=
  pw_eq h.apart hx hy (fun r => r.2.2.1 (by rw [e]; exact ⟨rfl, rfl⟩)) (fun r => r.2.2.1 (by rw [e]; exact ⟨rfl, rfl⟩))

theorem TenR.lookP_some {w : World} {S : Nat → Prop} {g hp hi : Nat} {T : Tn} {L : List Cl} (h : TenR w S g hp hi T L) {p q : Int} {x : Cl} (hx : x ∈ L) (hf : T.maps.find? (isP p q) = some x.m) :
    (Instr.lookup 101 (.map (some hp)) (.agg #[.int .i64 p, .int .i64 q]) true).run Try.prog w = .ok (.tuple #[.pointer (some ⟨x.g, 0, none⟩), .bool true]) w := by
  rcases h.lookP p q with ⟨h1, _⟩ | ⟨y, hy, h1, h2⟩
  · rw [hf] at h1; cases h1
  · rw [hf] at h1
    rw [h.same hx hy (Option.some.inj h1)]
    exact h2

theorem TenR.lookP_none {w : World} {S : Nat → Prop} {g hp hi : Nat} {T : Tn} {L : List Cl} (h : TenR w S g hp hi T L) {p q : Int} (hf : T.maps.find? (isP p q) = none) :
    (Instr.lookup 101 (.map (some hp)) (.agg #[.int .i64 p, .int .i64 q]) true).run Try.prog w = .ok (.tuple #[.pointer none, .bool false]) w := by
  rcases h.lookP p q with ⟨_, h2⟩ | ⟨y, hy, h1, _⟩
  · exact h2
  · rw [hf] at h1; cases h1

theorem TenR.lookI_some {w : World} {S : Nat → Prop} {g hp hi : Nat} {T : Tn} {L : List Cl} (h : TenR w S g hp hi T L) {p a b : Int} {x : Cl} (hx : x ∈ L) (hf : T.maps.find? (isI p a b) = some x.m) :
    (Instr.lookup 102 (.map (some hi)) (.agg #[.int .i64 p, .int .i64 a, .int .i64 b]) true).run Try.prog w = .ok (.tuple #[.pointer (some ⟨x.g, 0, none⟩), .bool true]) w := by
  rcases h.lookI p a b with ⟨h1, _⟩ | ⟨y, hy, h1, h2⟩
  · rw [hf] at h1; cases h1
  · rw [hf] at h1
    rw [h.same hx hy (Option.some.inj h1)]
    exact h2

theorem TenR.lookI_none {w : World} {S : Nat → Prop} {g hp hi : Nat} {T : Tn} {L : List Cl} (h : TenR w S g hp hi T L) {p a b : Int} (hf : T.maps.find? (isI p a b) = none) :
    (Instr.lookup 102 (.map (some hi)) (.agg #[.int .i64 p, .int .i64 a, .int .i64 b]) true).run Try.prog w = .ok (.tuple #[.pointer none, .bool false]) w := by
  rcases h.lookI p a b with ⟨_, h2⟩ | ⟨y, hy, h1, _⟩
  · exact h2
  · rw [hf] at h1; cases h1

/-- a tenant stays while blocks are made and orders are drawn -/
theorem TenR.new {w w' : World} {S : Nat → Prop} {g hp hi : Nat} {T : Tn} {L : List Cl} (h : TenR w S g hp hi T L) (hb : Below w.heap.size w w') : TenR w' S g hp hi T L :=
  h.keep (X := fun _ => False) (Fr.of_below hb) (fun _ _ f => f)

theorem TenR.cells {w : World} {S : Nat → Prop} {g hp hi : Nat} {T : Tn} {L : List Cl} (h : TenR w S g hp hi T L) : g < w.heap.size ∧ w.cell? ⟨g, 0, none⟩ = some (.int .i64 T.outer) ∧ w.cell? ⟨g, 1, none⟩ = some (.int .i64 T.low) ∧ w.cell? ⟨g, 2, none⟩ = some (.int .i64 T.high) ∧ w.cell? ⟨g, 3, none⟩ = some (.map (some hp)) ∧ w.cell? ⟨g, 4, none⟩ = some (.map (some hi)) := by
  have hb := h.blk
  refine ⟨(Array.getElem?_eq_some_iff.1 hb).1, ?_, ?_, ?_, ?_, ?_⟩ <;> simp [World.cell?, hb]

set_option maxHeartbeats 1000000 in
theorem face_any (g n : Nat) (outer port : Int) (w : World) (hg : w.cell? ⟨g, 0, none⟩ = some (.int .i64 outer)) (hn : w.cell? ⟨n, 3, none⟩ = some (.int .i64 port)) :
    Calls Try.prog 66 #[.pointer (some ⟨g, 0, none⟩), .pointer (some ⟨n, 0, none⟩)] w fun e w' => e = .returned (.agg #[.int .i64 outer, .int .i64 port]) ∧ Below w.heap.size w w' := by
  have l1 : g < w.heap.size := World.block_lt_of_cell? w _ hg
  have l2 : n < w.heap.size := World.block_lt_of_cell? w _ hn
  go_enter Try.func66, Try.ntmps66
  go_wp2
  go_region
  go_wp2
  all_goals exact bodyPost_ret (v := .agg #[.int .i64 outer, .int .i64 port]) (by simp [results, Try.results66, go_sem]) rfl ⟨rfl, ((Below.refl _ _).alloc (Nat.le_refl _) _).drew⟩

set_option maxHeartbeats 1000000 in
theorem newMapping_any (proto ia ip port : Int) (w : World) :
    Calls Try.prog 102 #[.int .i64 proto, .agg #[.int .i64 ia, .int .i64 ip], .int .i64 port] w fun e w' => e = .returned (.pointer (some ⟨w.heap.size + 1, 0, none⟩)) ∧
      w'.heap[w.heap.size + 1]? = some (.cells (mpC (newM proto ia ip port) (.slice none 0 0)) 109 (0, 0)) ∧ Below w.heap.size w w' ∧ w'.heap.size = w.heap.size + 2 := by
  by_cases h : proto = 2
  · have hn : newM proto ia ip port = ⟨proto, ia, ip, port, [], 1, 0, false, false⟩ := by unfold newM; rw [if_pos h]
    rw [hn]
    clear hn
    go_enter Try.func102, Try.ntmps102
    go_wp2
    go_ret
    refine ⟨rfl, ?_, ((Below.refl _ _).alloc (Nat.le_refl _) _).alloc (by simp) _, by simp⟩
    rw [blkN _ _ _ (by simp)]
    simp [mpC, h]
  · have hn : newM proto ia ip port = ⟨proto, ia, ip, port, [], 0, 0, false, false⟩ := by unfold newM; rw [if_neg h]
    have h' : (proto == 2) = false := by simpa using h
    rw [hn]
    clear hn
    go_enter Try.func102, Try.ntmps102
    go_wp2
    go_ret
    refine ⟨rfl, ?_, ((Below.refl _ _).alloc (Nat.le_refl _) _).alloc (by simp) _, by simp⟩
    rw [blkN _ _ _ (by simp)]
    simp [mpC]

set_option maxHeartbeats 1000000 in
theorem behind_far (g : Nat) (outer proto a q : Int) (w : World) (hg : w.cell? ⟨g, 0, none⟩ = some (.int .i64 outer)) (hne : a ≠ outer) :
    Calls Try.prog 67 #[.pointer (some ⟨g, 0, none⟩), .int .i64 proto, .agg #[.int .i64 a, .int .i64 q]] w fun e w' => e = .returned (.tuple #[.pointer none, .bool false]) ∧ Below w.heap.size w w' := by
  have l1 : g < w.heap.size := World.block_lt_of_cell? w _ hg
  have hne' : (a == outer) = false := by simpa using hne
  go_enter Try.func67, Try.ntmps67
  go_wp2
  go_quiet (fail)
  go_wp2
  go_ret2
  exact ⟨rfl, below_drewN ((Below.refl _ _).alloc (Nat.le_refl _) _) _⟩

set_option maxHeartbeats 1000000 in
theorem behind_none {w : World} {S : Nat → Prop} {g hp hi : Nat} {T : Tn} {L : List Cl} (h : TenR w S g hp hi T L) (p q : Int) (hf : T.maps.find? (isP p q) = none) :
    Calls Try.prog 67 #[.pointer (some ⟨g, 0, none⟩), .int .i64 p, .agg #[.int .i64 T.outer, .int .i64 q]] w fun e w' => e = .returned (.tuple #[.pointer none, .bool false]) ∧ Below w.heap.size w w' := by
  obtain ⟨l1, c0, -, -, c3, -⟩ := h.cells
  have HT := hide h
  have HF := hide hf
  clear h hf
  go_enter Try.func67, Try.ntmps67
  go_wp2
  go_quiet (fail)
  go_wp2
  have HB : Hid (Below w.heap.size w ((w.alloc (.cells #[.int .i64 T.outer, .int .i64 q] 34)).drewN nq)) := below_drewN ((Below.refl _ _).alloc (Nat.le_refl _) _) nq
  have d1 : ((w.alloc (.cells #[.int .i64 T.outer, .int .i64 q] 34)).drewN nq).cell? ⟨w.heap.size, 1, none⟩ = some (.int .i64 q) := by simp
  generalize ((w.alloc (.cells #[.int .i64 T.outer, .int .i64 q] 34)).drewN nq) = w1 at *
  have HT1 := hide ((unhide HT).new (unhide HB))
  have c3' := (unhide HT1).cells.2.2.2.2.1
  have hl := ((unhide HT1).new (Below.refl _ _).drew).lookP_none (unhide HF)
  go_region
  all_goals
    go_wp2
    go_ret2
    exact ⟨rfl, (unhide HB).drew⟩

set_option maxHeartbeats 1000000 in
theorem behind_some {w : World} {S : Nat → Prop} {g hp hi : Nat} {T : Tn} {L : List Cl} (h : TenR w S g hp hi T L) (p q : Int) {x : Cl} (hx : x ∈ L) (hf : T.maps.find? (isP p q) = some x.m) :
    Calls Try.prog 67 #[.pointer (some ⟨g, 0, none⟩), .int .i64 p, .agg #[.int .i64 T.outer, .int .i64 q]] w fun e w' => e = .returned (.tuple #[.pointer (some ⟨x.g, 0, none⟩), .bool true]) ∧ Below w.heap.size w w' := by
  obtain ⟨l1, c0, -, -, c3, -⟩ := h.cells
  have HT := hide h
  have HF := hide (And.intro hx hf)
  clear h hx hf
  go_enter Try.func67, Try.ntmps67
  go_wp2
  go_quiet (fail)
  go_wp2
  have HB : Hid (Below w.heap.size w ((w.alloc (.cells #[.int .i64 T.outer, .int .i64 q] 34)).drewN nq)) := below_drewN ((Below.refl _ _).alloc (Nat.le_refl _) _) nq
  have d1 : ((w.alloc (.cells #[.int .i64 T.outer, .int .i64 q] 34)).drewN nq).cell? ⟨w.heap.size, 1, none⟩ = some (.int .i64 q) := by simp
  generalize ((w.alloc (.cells #[.int .i64 T.outer, .int .i64 q] 34)).drewN nq) = w1 at *
  have HT1 := hide ((unhide HT).new (unhide HB))
  have c3' := (unhide HT1).cells.2.2.2.2.1
  have hl := ((unhide HT1).new (Below.refl _ _).drew).lookP_some (unhide HF).1 (unhide HF).2
  go_region
  all_goals
    go_wp2
    go_ret2
    exact ⟨rfl, (unhide HB).drew⟩
end

section
open Go.RowKit
open Go.ChangeMaps (setBlock)

theorem freeF_hit {l : List Mp} {p q high : Int} {n : Nat} (hn : n = (high + 1 - q).toNat) (hq : q ≤ high) {m : Mp} (h : l.find? (isP p q) = some m) : freeF l p n q = freeF l p (high + 1 - (q + 1)).toNat (q + 1) := by
  obtain ⟨k, hk⟩ : ∃ k, (high + 1 - q).toNat = k + 1 := ⟨(high + 1 - q).toNat - 1, by omega⟩
  rw [hn, hk, freeF, h]
  have : (high + 1 - (q + 1)).toNat = k := by omega
  rw [this]
  rfl

theorem freeF_free {l : List Mp} {p q high : Int} {n : Nat} (hn : n = (high + 1 - q).toNat) (hq : q ≤ high) (h : l.find? (isP p q) = none) : freeF l p n q = some q := by
  obtain ⟨k, hk⟩ : ∃ k, (high + 1 - q).toNat = k + 1 := ⟨(high + 1 - q).toNat - 1, by omega⟩
  rw [hn, hk, freeF, h]
  rfl

def freeV : Option Int → Value
  | none => .tuple #[.int .i64 0, .bool false]
  | some q => .tuple #[.int .i64 q, .bool true]

set_option maxHeartbeats 1000000 in
theorem freePort_any {w : World} {S : Nat → Prop} {g hp hi : Nat} {T : Tn} {L : List Cl} (h : TenR w S g hp hi T L) (p : Int) :
    Calls Try.prog 101 #[.pointer (some ⟨g, 0, none⟩), .int .i64 p] w fun e w' => e = .returned (freeV (freeF T.maps p (T.high + 1 - T.low).toNat T.low)) ∧ w' = w := by
  obtain ⟨l1, -, c1, c2, c3, -⟩ := h.cells
  have hlo := h.good.low
  have hhi := h.good.high
  have HT := hide h
  clear h
  generalize hR : freeF T.maps p (T.high + 1 - T.low).toNat T.low = R
  have HR := hide hR
  clear hR
  go_enter Try.func101, Try.ntmps101
  go_wp2
  go_loop [6] (fun i => ∃ q : Int, T.low ≤ q ∧ q ≤ 65536 ∧ i = .int .i64 q ∧ freeF T.maps p (T.high + 1 - q).toNat q = R) (fun i => (T.high + 1 - intOf i).toNat)
  case atStart => exact ⟨T.low, Int.le_refl _, by have := (unhide HT).good.le; omega, rfl, unhide HR⟩
  case round =>
    obtain ⟨q, h1, h2, rfl, h3⟩ := hrel
    by_cases hq : q ≤ T.high
    · cases hf : T.maps.find? (isP p q) with
      | none =>
        have hl := (unhide HT).lookP_none hf
        have hfin : Hid (R = some q) := by
          rw [← h3]
          exact freeF_free rfl hq hf
        clear h3 hf
        go_wp2
        go_ret2
        exact ⟨by rw [unhide hfin]; rfl, rfl⟩
      | some m =>
        obtain ⟨x, hx, rfl⟩ := (unhide HT).ofFind hf
        have hl := (unhide HT).lookP_some hx hf
        have hfin : Hid (freeF T.maps p (T.high + 1 - (q + 1)).toNat (q + 1) = R) := by
          rw [← h3]
          exact (freeF_hit rfl hq hf).symm
        clear h3 hf hx
        go_wp2
        go_round
        case rel => exact ⟨q + 1, by omega, by omega, rfl, unhide hfin⟩
        case measure => simp [intOf]; omega
    · have hfin : Hid (R = none) := by
        rw [← h3]
        have : (T.high + 1 - q).toNat = 0 := by omega
        rw [this]
        rfl
      clear h3
      go_wp2
      go_ret2
      exact ⟨by rw [unhide hfin]; rfl, rfl⟩

theorem setBlock_other (w : World) (r : Nat) (o : Obj) (b : Nat) (h : b ≠ r) : (setBlock w r o).heap[b]? = w.heap[b]? := by
  show (w.heap.setIfInBounds r o)[b]? = w.heap[b]?
  simp [Ne.symm h]

theorem setBlock_same {w : World} {r : Nat} {o o' : Obj} (h : w.heap[r]? = some o) : (setBlock w r o').heap[r]? = some o' := by
  have hlt : r < w.heap.size := (Array.getElem?_eq_some_iff.1 h).1
  show (w.heap.setIfInBounds r o')[r]? = some o'
  simp [hlt]

theorem Fr.setBlock {X : Nat → Prop} {a b : World} (h : Fr X a b) {r : Nat} (o : Obj) (hX : r < a.heap.size → X r) : Fr X a (setBlock b r o) :=
  h.trans' (Y := fun k => k = r) ⟨rfl, rfl, rfl, by simp [Go.ChangeMaps.setBlock], fun k _ hk => setBlock_other b r o k hk⟩ (fun i hi hl => by subst hi; exact hX hl)

set_option maxHeartbeats 1000000 in
theorem add_raw {w : World} {g hp hi n : Nat} {t0 t1 t2 p a b q : Int} {sv x5 x6 x7 x8 : Value} {es es' : Array MapEntry} {c c' : Nat}
    (hg : w.heap[g]? = some (.cells #[.int .i64 t0, .int .i64 t1, .int .i64 t2, .map (some hp), .map (some hi)] 104 (0, 0))) (hn : w.heap[n]? = some (.cells #[.int .i64 p, .int .i64 a, .int .i64 b, .int .i64 q, sv, x5, x6, x7, x8] 109 (0, 0)))
    (h1 : w.heap[hp]? = some (.map es c)) (h2 : w.heap[hi]? = some (.map es' c')) (hne : hp ≠ hi) (k1 : ∀ e ∈ es.toList, KP e.key ∧ e.key ≠ .agg #[.int .i64 p, .int .i64 q]) (k2 : ∀ e ∈ es'.toList, KI e.key ∧ e.key ≠ .agg #[.int .i64 p, .int .i64 a, .int .i64 b]) :
    Calls Try.prog 103 #[.pointer (some ⟨g, 0, none⟩), .pointer (some ⟨n, 0, none⟩)] w fun e w' => e = .returned (.tuple #[]) ∧ Fr (fun k => k = hp ∨ k = hi) w w' ∧ w'.heap.size = w.heap.size ∧
      w'.heap[hp]? = some (.map (es.push { key := .agg #[.int .i64 p, .int .i64 q], val := .pointer (some ⟨n, 0, none⟩), born := c }) (c + 1)) ∧ w'.heap[hi]? = some (.map (es'.push { key := .agg #[.int .i64 p, .int .i64 a, .int .i64 b], val := .pointer (some ⟨n, 0, none⟩), born := c' }) (c' + 1)) := by
  have g1 : g < w.heap.size := (Array.getElem?_eq_some_iff.1 hg).1
  have n1 : n < w.heap.size := (Array.getElem?_eq_some_iff.1 hn).1
  have hpg : hp ≠ g := map_ne_cells h1 hg
  have hpn : hp ≠ n := map_ne_cells h1 hn
  have c3 : w.cell? ⟨g, 3, none⟩ = some (.map (some hp)) := by simp [World.cell?, hg]
  have d0 : w.cell? ⟨n, 0, none⟩ = some (.int .i64 p) := by simp [World.cell?, hn]
  have d3 : w.cell? ⟨n, 3, none⟩ = some (.int .i64 q) := by simp [World.cell?, hn]
  have hup := run_upd keyP w.drew hp es c (.agg #[.int .i64 p, .int .i64 q]) (.pointer (some ⟨n, 0, none⟩)) h1 ⟨p, q, rfl⟩ (fun e he => (k1 e he).1) (fun e he => (k1 e he).2)
  have hg2 := (setBlock_other w.drew hp (.map (es.push { key := .agg #[.int .i64 p, .int .i64 q], val := .pointer (some ⟨n, 0, none⟩), born := c }) (c + 1)) g (Ne.symm hpg)).trans hg
  have hn2 := (setBlock_other w.drew hp (.map (es.push { key := .agg #[.int .i64 p, .int .i64 q], val := .pointer (some ⟨n, 0, none⟩), born := c }) (c + 1)) n (Ne.symm hpn)).trans hn
  have hi2 := (setBlock_other w.drew hp (.map (es.push { key := .agg #[.int .i64 p, .int .i64 q], val := .pointer (some ⟨n, 0, none⟩), born := c }) (c + 1)) hi (Ne.symm hne)).trans h2
  have hp2 := setBlock_same (w := w.drew) (o' := (.map (es.push { key := .agg #[.int .i64 p, .int .i64 q], val := .pointer (some ⟨n, 0, none⟩), born := c }) (c + 1))) h1
  have hF2 : Fr (fun k => k = hp ∨ k = hi) w (setBlock w.drew hp (.map (es.push { key := .agg #[.int .i64 p, .int .i64 q], val := .pointer (some ⟨n, 0, none⟩), born := c }) (c + 1))) := (Fr.refl _ w).drew.setBlock _ (fun _ => .inl rfl)
  have hS2 : (setBlock w.drew hp (.map (es.push { key := .agg #[.int .i64 p, .int .i64 q], val := .pointer (some ⟨n, 0, none⟩), born := c }) (c + 1))).heap.size = w.heap.size := by simp [setBlock]
  generalize hw2 : setBlock w.drew hp (.map (es.push { key := .agg #[.int .i64 p, .int .i64 q], val := .pointer (some ⟨n, 0, none⟩), born := c }) (c + 1)) = w2 at *
  have c4 : w2.cell? ⟨g, 4, none⟩ = some (.map (some hi)) := by simp [World.cell?, hg2]
  have e0 : w2.cell? ⟨n, 0, none⟩ = some (.int .i64 p) := by simp [World.cell?, hn2]
  have e1 : w2.cell? ⟨n, 1, none⟩ = some (.int .i64 a) := by simp [World.cell?, hn2]
  have e2 : w2.cell? ⟨n, 2, none⟩ = some (.int .i64 b) := by simp [World.cell?, hn2]
  have hup2 := run_upd keyI w2.drew hi es' c' (.agg #[.int .i64 p, .int .i64 a, .int .i64 b]) (.pointer (some ⟨n, 0, none⟩)) hi2 ⟨p, a, b, rfl⟩ (fun e he => (k2 e he).1) (fun e he => (k2 e he).2)
  have HX := hide (And.intro hF2 (And.intro hS2 (And.intro hp2 hi2)))
  clear hF2 hS2 hp2 hi2 hg2 hn2 hg hn h1 h2 k1 k2 hw2
  go_enter Try.func103, Try.ntmps103
  go_wp2
  go_region
  all_goals
    clear hup
    go_wp2
    go_region
    all_goals
      go_wp2
      go_end0
      obtain ⟨hF2, hS2, hp2, hi2⟩ := unhide HX
      exact ⟨rfl, hF2.drew.setBlock _ (fun _ => .inr rfl), by simpa [setBlock] using hS2, (setBlock_other _ _ _ _ hne).trans hp2, setBlock_same (w := w2.drew) hi2⟩
end

section
open Go.RowKit
open Go.ChangeMaps (setBlock)

theorem GoodT.snoc {T : Tn} (h : GoodT T) {m : Mp} (hok : okM T m) (h1 : T.maps.find? (isP m.proto m.port) = none) (h2 : T.maps.find? (isI m.proto m.ia m.ip) = none) : GoodT { T with maps := T.maps ++ [m] } := by
  refine ⟨h.low, h.high, h.span, h.le, ?_, ?_⟩
  · intro y hy
    rcases List.mem_append.1 hy with hy | hy
    · exact h.ok y hy
    · rw [List.mem_singleton.1 hy]
      exact hok
  · refine List.pairwise_append.2 ⟨h.apart, by simp, fun a ha b hb => ?_⟩
    rw [List.mem_singleton.1 hb]
    exact ⟨fun e => List.find?_eq_none.1 h1 a ha (isP_iff.2 e), fun e => List.find?_eq_none.1 h2 a ha (isI_iff.2 e)⟩

theorem add_any {w : World} {S : Nat → Prop} {g hp hi n : Nat} {T : Tn} {L : List Cl} {m : Mp} (h : TenR w S g hp hi T L) (hn : w.heap[n]? = some (.cells (mpC m (.slice none 0 0)) 109 (0, 0))) (hpe : m.peers = []) (hS : ¬ S n) (hok : okM T m)
    (h1 : T.maps.find? (isP m.proto m.port) = none) (h2 : T.maps.find? (isI m.proto m.ia m.ip) = none) :
    Calls Try.prog 103 #[.pointer (some ⟨g, 0, none⟩), .pointer (some ⟨n, 0, none⟩)] w fun e w' => e = .returned (.tuple #[]) ∧ TenR w' (fun k => S k ∨ k = n) g hp hi { T with maps := T.maps ++ [m] } (L ++ [⟨n, .slice none 0 0, m⟩]) ∧ Fr S w w' ∧ w'.heap.size = w.heap.size := by
  obtain ⟨es, c, a1, a2, a3, a4⟩ := h.mp
  obtain ⟨es', c', b1, b2⟩ := h.mi
  have n1 : n < w.heap.size := (Array.getElem?_eq_some_iff.1 hn).1
  have memL : ∀ x ∈ L, x.m ∈ T.maps := fun x hx => by rw [← h.maps]; exact List.mem_map.2 ⟨x, hx, rfl⟩
  refine (add_raw h.blk hn a1 b1 h.ne (fun e he => ?_) (fun e he => ?_)).mono ?_
  · obtain ⟨x, hx, hk, _⟩ := (keysP a2).1 e he
    refine ⟨⟨_, _, hk⟩, fun e' => ?_⟩
    exact List.find?_eq_none.1 h1 x.m (memL x hx) (isP_iff.2 (kP_iff.1 (hk.symm.trans e')))
  · obtain ⟨x, hx, hk, _⟩ := (keysI b2).1 e he
    refine ⟨⟨_, _, _, hk⟩, fun e' => ?_⟩
    exact List.find?_eq_none.1 h2 x.m (memL x hx) (isI_iff.2 (kI_iff.1 (hk.symm.trans e')))
  · rintro e w' ⟨rfl, hF, hsz, hP, hI⟩
    have hXn : ∀ {cs : Array Value} {t : TypeId} {f : Nat × Nat} {k : Nat}, w.heap[k]? = some (.cells cs t f) → ¬ (k = hp ∨ k = hi) := fun hk => by
      rintro (e | e)
      · exact map_ne_cells a1 hk e.symm
      · exact map_ne_cells b1 hk e.symm
    refine ⟨rfl, ⟨.inl h.sg, .inl h.shp, .inl h.shi, h.ne, ?_, hF.some h.blk (hXn h.blk), ⟨_, _, hP, ?_, ?_, ?_⟩, ⟨_, _, hI, ?_⟩, ?_, ?_, ?_, h.good.snoc hok h1 h2⟩, ?_, hsz⟩
    · rintro k (hk | hk)
      · rw [hsz]; exact h.bound k hk
      · rw [hsz, hk]; exact n1
    · simp [a2, kP, ptrV]
    · intro e he
      simp at he
      rcases he with he | rfl
      · have := a3 e (by simpa using he)
        omega
      · exact Nat.lt_succ_self _
    · rw [Array.toList_push, List.map_append, List.nodup_append]
      refine ⟨a4, by simp, fun a ha b hb => ?_⟩
      obtain ⟨e, he, rfl⟩ := List.mem_map.1 ha
      have := a3 e he
      simp at hb
      omega
    · simp [b2, kI, ptrV]
    · simp [h.maps]
    · intro x hx
      rcases List.mem_append.1 hx with hx | hx
      · obtain ⟨y1, y2, y3⟩ := h.mem x hx
        refine ⟨y1.keep hF (hXn y1.1) ?_, .inl y2, fun b hb => .inl (y3 b hb)⟩
        intro b hb
        rintro (e | e)
        · exact row_ne_map y1.2 a1 (e ▸ hb)
        · exact row_ne_map y1.2 b1 (e ▸ hb)
      · rw [List.mem_singleton.1 hx]
        refine ⟨⟨hF.some hn (hXn hn), ?_⟩, .inr rfl, fun b hb => by cases hb⟩
        rw [hpe]
        exact World.ownsRow_nil _ _ _ _
    · refine List.pairwise_append.2 ⟨h.apart, by simp, fun a ha b hb => ?_⟩
      rw [List.mem_singleton.1 hb]
      refine ⟨fun e => ?_, fun b' _ hb' => ?_, ?_⟩
      · have e' : a.g = n := e
        exact hS (e' ▸ (h.mem a ha).2.1)
      · have hb2 : (Value.slice none 0 0).ownBlock = some b' := hb'
        simp [Value.ownBlock] at hb2
      · exact ⟨fun e => List.find?_eq_none.1 h1 a.m (memL a ha) (isP_iff.2 e), fun e => List.find?_eq_none.1 h2 a.m (memL a ha) (isI_iff.2 e)⟩
    · exact hF.mono (fun k hk _ => by rcases hk with rfl | rfl; exact h.shp; exact h.shi)

theorem freeF_some {l : List Mp} {p : Int} : ∀ {n : Nat} {q r : Int}, freeF l p n q = some r → q ≤ r ∧ r < q + n ∧ l.find? (isP p r) = none
  | 0, _, _, h => by cases h
  | n + 1, q, r, h => by
    rw [freeF] at h
    split at h
    · obtain ⟨h1, h2, h3⟩ := freeF_some h
      exact ⟨by omega, by omega, h3⟩
    · rename_i hf
      cases h
      exact ⟨Int.le_refl _, by omega, by simpa using hf⟩
end

section
open Go.RowKit
open Go.ChangeMaps (setBlock)

set_option maxHeartbeats 1000000 in
theorem mappingFor_old {w : World} {S : Nat → Prop} {g hp hi : Nat} {T : Tn} {L : List Cl} (h : TenR w S g hp hi T L) (p : Pk) {x : Cl} (hx : x ∈ L) (hf : T.maps.find? (isI p.proto p.sa p.sp) = some x.m) :
    Calls Try.prog 68 #[.pointer (some ⟨g, 0, none⟩), .agg (pkC p)] w fun e w' => e = .returned (.tuple #[.pointer (some ⟨x.g, 0, none⟩), .int .i64 0]) ∧ Below w.heap.size w w' := by
  obtain ⟨l1, -, -, -, -, c4⟩ := h.cells
  have hl := (h.new ((Below.refl _ _).alloc (Nat.le_refl _) (.cells (pkC p) 38)).drew).lookI_some hx hf
  obtain ⟨tag, proto, out, sa, sp, da, dp, syn, fin, rst, err, qsa, qsp, qda, qdp⟩ := p
  unfold pkC at *
  dsimp only at *
  clear h hf hx
  go_enter Try.func68, Try.ntmps68
  go_wp2
  go_region
  all_goals
    go_wp2
    go_ret2
    exact ⟨rfl, ((Below.refl _ _).alloc (Nat.le_refl _) _).drew⟩

set_option maxHeartbeats 1000000 in
theorem mappingFor_not {w : World} {S : Nat → Prop} {g hp hi : Nat} {T : Tn} {L : List Cl} (h : TenR w S g hp hi T L) (p : Pk) (hf : T.maps.find? (isI p.proto p.sa p.sp) = none) (h2 : p.proto = 2) (hs : p.syn = false) :
    Calls Try.prog 68 #[.pointer (some ⟨g, 0, none⟩), .agg (pkC p)] w fun e w' => e = .returned (.tuple #[.pointer none, .int .i64 2]) ∧ Below w.heap.size w w' := by
  obtain ⟨l1, -, -, -, -, c4⟩ := h.cells
  have hl := (h.new ((Below.refl _ _).alloc (Nat.le_refl _) (.cells (pkC p) 38)).drew).lookI_none hf
  obtain ⟨tag, proto, out, sa, sp, da, dp, syn, fin, rst, err, qsa, qsp, qda, qdp⟩ := p
  unfold pkC at *
  dsimp only at *
  subst h2
  subst hs
  clear h hf
  go_enter Try.func68, Try.ntmps68
  go_wp2
  go_region
  all_goals
    go_wp2
    go_ret2
    exact ⟨rfl, ((Below.refl _ _).alloc (Nat.le_refl _) _).drew⟩

set_option maxHeartbeats 1000000 in
theorem mappingFor_full {w : World} {S : Nat → Prop} {g hp hi : Nat} {T : Tn} {L : List Cl} (h : TenR w S g hp hi T L) (p : Pk) (hf : T.maps.find? (isI p.proto p.sa p.sp) = none) (h2 : (p.proto == 2 && !p.syn) = false) (hq : freeF T.maps p.proto (T.high + 1 - T.low).toNat T.low = none) :
    Calls Try.prog 68 #[.pointer (some ⟨g, 0, none⟩), .agg (pkC p)] w fun e w' => e = .returned (.tuple #[.pointer none, .int .i64 3]) ∧ Below w.heap.size w w' := by
  obtain ⟨l1, -, -, -, -, c4⟩ := h.cells
  have hN := h.new ((Below.refl _ _).alloc (Nat.le_refl _) (.cells (pkC p) 38)).drew
  have hl := hN.lookI_none hf
  have HF := hide (freePort_any hN p.proto)
  rw [hq] at HF
  unfold freeV at HF
  obtain ⟨tag, proto, out, sa, sp, da, dp, syn, fin, rst, err, qsa, qsp, qda, qdp⟩ := p
  unfold pkC at *
  dsimp only at *
  clear h hf hN hq
  by_cases h3 : proto = 2
  · subst h3
    have hs : syn = true := by simpa using h2
    subst hs
    clear h2
    go_enter Try.func68, Try.ntmps68
    go_wp2
    go_region
    all_goals
      go_wp2_with (go_at_call 101; refine (unhide HF).mono ?_; rintro e w' ⟨rfl, hw⟩; symm at hw; subst hw)
      go_ret2
      exact ⟨rfl, ((Below.refl _ _).alloc (Nat.le_refl _) _).drew⟩
  · have h3' : (proto == 2) = false := by simpa using h3
    clear h2
    go_enter Try.func68, Try.ntmps68
    go_wp2
    go_region
    all_goals
      go_wp2_with (go_at_call 101; refine (unhide HF).mono ?_; rintro e w' ⟨rfl, hw⟩; symm at hw; subst hw)
      go_ret2
      exact ⟨rfl, ((Below.refl _ _).alloc (Nat.le_refl _) _).drew⟩
end

section
open Go.RowKit
open Go.ChangeMaps (setBlock)

/-- what mappingFor leaves where it makes a mapping -/
def Made (w : World) (S : Nat → Prop) (g hp hi : Nat) (T : Tn) (L : List Cl) (m : Mp) (n : Nat) (w' : World) : Prop :=
  TenR w' (fun k => S k ∨ k = n) g hp hi { T with maps := T.maps ++ [m] } (L ++ [⟨n, .slice none 0 0, m⟩]) ∧ Fr S w w' ∧ w.heap.size ≤ n ∧ n < w'.heap.size

set_option maxHeartbeats 1000000 in
theorem mappingFor_new {w : World} {S : Nat → Prop} {g hp hi : Nat} {T : Tn} {L : List Cl} (h : TenR w S g hp hi T L) (p : Pk) (hpr : 1 ≤ p.proto ∧ p.proto ≤ 3) (hf : T.maps.find? (isI p.proto p.sa p.sp) = none) (h2 : (p.proto == 2 && !p.syn) = false) (q : Int) (hq : freeF T.maps p.proto (T.high + 1 - T.low).toNat T.low = some q) :
    Calls Try.prog 68 #[.pointer (some ⟨g, 0, none⟩), .agg (pkC p)] w fun e w' => ∃ n, e = .returned (.tuple #[.pointer (some ⟨n, 0, none⟩), .int .i64 0]) ∧ Made w S g hp hi T L (newM p.proto p.sa p.sp q) n w' := by
  obtain ⟨l1, -, -, -, -, c4⟩ := h.cells
  have hB1 : Below w.heap.size w (w.alloc (.cells (pkC p) 38)).drew := ((Below.refl _ _).alloc (Nat.le_refl _) (.cells (pkC p) 38)).drew
  have hN := h.new hB1
  have hl := hN.lookI_none hf
  have HF := hide (freePort_any hN p.proto)
  rw [hq] at HF
  unfold freeV at HF
  obtain ⟨q1, q2, q3⟩ := freeF_some hq
  have hle := h.good.le
  have hok : okM T (newM p.proto p.sa p.sp q) := ⟨hpr.1, hpr.2, q1, by show q ≤ T.high; omega, by simp [newM], by simp [newM], by simp [newM]⟩
  have HA : Hid (∀ w2, Below (w.alloc (.cells (pkC p) 38)).drew.heap.size (w.alloc (.cells (pkC p) 38)).drew w2 → w2.heap.size = w.heap.size + 3 → w2.heap[w.heap.size + 2]? = some (.cells (mpC (newM p.proto p.sa p.sp q) (.slice none 0 0)) 109 (0, 0)) →
      Calls Try.prog 103 #[.pointer (some ⟨g, 0, none⟩), .pointer (some ⟨w.heap.size + 2, 0, none⟩)] w2 fun e w' => e = .returned (.tuple #[]) ∧ Made w S g hp hi T L (newM p.proto p.sa p.sp q) (w.heap.size + 2) w') := by
    intro w2 hb2 hs2 hn2
    have hT2 := hN.new hb2
    refine (add_any hT2 hn2 rfl (fun hS => by have := h.bound _ hS; omega) hok q3 hf).mono ?_
    rintro e w' ⟨rfl, k1, k2, k3⟩
    refine ⟨rfl, k1, ?_, by omega, by omega⟩
    exact (Fr.of_below (hB1.trans (hb2.mono (by simp)))).trans k2
  obtain ⟨tag, proto, out, sa, sp, da, dp, syn, fin, rst, err, qsa, qsp, qda, qdp⟩ := p
  unfold pkC at *
  dsimp only at *
  clear h hf hN hq hB1 q1 q2 q3 hok hpr
  by_cases h3 : proto = 2
  · subst h3
    have hs : syn = true := by simpa using h2
    subst hs
    clear h2
    go_enter Try.func68, Try.ntmps68
    go_wp2
    go_region
    all_goals
      go_wp2_with (first | (go_at_call 101; refine (unhide HF).mono ?_; rintro e w' ⟨rfl, hw⟩; symm at hw; subst hw) | (go_at_call 102; refine (newMapping_any _ _ _ _ _).mono ?_; rintro e w2 ⟨rfl, hn2, hb2, hs2⟩; have HC := hide (unhide HA w2 hb2 (by simpa using hs2) (by simpa using hn2)); clear hn2 hb2 hs2) | (go_at_call 103; refine (unhide HC).mono ?_; rintro e w3 ⟨rfl, hm3⟩; have HM3 := hide hm3; clear hm3))
      go_ret2
      exact ⟨_, rfl, unhide HM3⟩
  · have h3' : (proto == 2) = false := by simpa using h3
    clear h2
    go_enter Try.func68, Try.ntmps68
    go_wp2
    go_region
    all_goals
      go_wp2_with (first | (go_at_call 101; refine (unhide HF).mono ?_; rintro e w' ⟨rfl, hw⟩; symm at hw; subst hw) | (go_at_call 102; refine (newMapping_any _ _ _ _ _).mono ?_; rintro e w2 ⟨rfl, hn2, hb2, hs2⟩; have HC := hide (unhide HA w2 hb2 (by simpa using hs2) (by simpa using hn2)); clear hn2 hb2 hs2) | (go_at_call 103; refine (unhide HC).mono ?_; rintro e w3 ⟨rfl, hm3⟩; have HM3 := hide hm3; clear hm3))
      go_ret2
      exact ⟨_, rfl, unhide HM3⟩
end

section
open Go.RowKit
open Go.ChangeMaps (setBlock)

/-- what a call on a tenant leaves -/
def After (w : World) (S : Nat → Prop) (g hp hi : Nat) (T : Tn) (w' : World) : Prop := ∃ L, TenR w' (grow S w w') g hp hi T L ∧ Fr S w w'

theorem TenR.after {w w' : World} {S : Nat → Prop} {g hp hi : Nat} {T : Tn} {L : List Cl} (h : TenR w S g hp hi T L) (hb : Below w.heap.size w w') : After w S g hp hi T w' :=
  ⟨L, (h.new hb).mono (fun _ hk => .inl hk) (by
    rintro k (hk | hk)
    · exact Nat.lt_of_lt_of_le (h.bound k hk) hb.size
    · exact hk.2), Fr.of_below hb⟩

def pk0V : Value := .agg #[.int .i64 0, .int .i64 0, .bool false, .int .i64 0, .int .i64 0, .int .i64 0, .int .i64 0, .bool false, .bool false, .bool false, .bool false, .int .i64 0, .int .i64 0, .int .i64 0, .int .i64 0]

theorem Fr.setNew {X : Nat → Prop} {a b : World} (h : Fr X a b) {p : Addr} {u : Value} (hn : a.heap.size ≤ p.block) : Fr X a (b.setCell p u) := h.setCell u (fun hl => by omega)

/-- the cells of a packet that lies in a block -/
theorem pk_cells {w : World} {b : Nat} {p : Pk} (h : w.heap[b]? = some (.cells (pkC p) 38 (0, 0))) :
    w.cell? ⟨b, 0, none⟩ = some (.int .i64 p.tag) ∧ w.cell? ⟨b, 1, none⟩ = some (.int .i64 p.proto) ∧ w.cell? ⟨b, 2, none⟩ = some (.bool p.out) ∧ w.cell? ⟨b, 3, none⟩ = some (.int .i64 p.sa) ∧ w.cell? ⟨b, 4, none⟩ = some (.int .i64 p.sp) ∧ w.cell? ⟨b, 5, none⟩ = some (.int .i64 p.da) ∧ w.cell? ⟨b, 6, none⟩ = some (.int .i64 p.dp) ∧
    w.cell? ⟨b, 7, none⟩ = some (.bool p.syn) ∧ w.cell? ⟨b, 8, none⟩ = some (.bool p.fin) ∧ w.cell? ⟨b, 9, none⟩ = some (.bool p.rst) ∧ w.cell? ⟨b, 10, none⟩ = some (.bool p.err) ∧ w.cell? ⟨b, 11, none⟩ = some (.int .i64 p.qsa) ∧ w.cell? ⟨b, 12, none⟩ = some (.int .i64 p.qsp) ∧ w.cell? ⟨b, 13, none⟩ = some (.int .i64 p.qda) ∧ w.cell? ⟨b, 14, none⟩ = some (.int .i64 p.qdp) ∧ ∀ o, w.frozen? ⟨b, o, none⟩ = false := by
  refine ⟨?_, ?_, ?_, ?_, ?_, ?_, ?_, ?_, ?_, ?_, ?_, ?_, ?_, ?_, ?_, fun o => ?_⟩ <;> simp [World.cell?, World.frozen?, h, pkC]

set_option maxHeartbeats 1000000 in
theorem passIn_far {w : World} {S : Nat → Prop} {g hp hi : Nat} {T : Tn} {L : List Cl} (h : TenR w S g hp hi T L) (p : Pk) (hno : p.da ≠ T.outer ∨ (p.da = T.outer ∧ T.maps.find? (isP p.proto p.dp) = none)) :
    Calls Try.prog 50 #[.pointer (some ⟨g, 0, none⟩), .agg (pkC p)] w fun e w' => e = .returned (.tuple #[.agg (pkC pk0), .int .i64 4]) ∧ Below w.heap.size w w' := by
  have hC : ∀ (w1 : World), Below w.heap.size w w1 → Hid (Calls Try.prog 67 #[.pointer (some ⟨g, 0, none⟩), .int .i64 p.proto, .agg #[.int .i64 p.da, .int .i64 p.dp]] w1 fun e w' => e = .returned (.tuple #[.pointer none, .bool false]) ∧ Below w1.heap.size w1 w') := by
    intro w1 hb
    rcases hno with hne | ⟨he, hf⟩
    · exact behind_far g T.outer p.proto p.da p.dp w1 (h.new hb).cells.2.1 hne
    · rw [he]
      exact behind_none (h.new hb) p.proto p.dp hf
  have l1 := h.cells.1
  obtain ⟨tag, proto, out, sa, sp, da, dp, syn, fin, rst, err, qsa, qsp, qda, qdp⟩ := p
  unfold pkC at *
  dsimp only at *
  clear h hno
  go_enter Try.func50, Try.ntmps50
  go_wp2_with fail
  refine (unhide (hC _ (((Below.refl _ _).alloc (Nat.le_refl _) _).alloc (by simp) _))).mono ?_
  rintro e w1 ⟨rfl, hb1⟩
  obtain ⟨hc, hf⟩ := bcell hb1
  have hz : w.heap.size + 2 ≤ w1.heap.size := by have := hb1.size; simpa using this
  have HB : Hid (Below w.heap.size w w1) := Below.trans (((Below.refl _ _).alloc (Nat.le_refl _) _).alloc (by simp) _) (hb1.mono (by simp; omega))
  clear hb1 hC
  go_wp2
  refine bodyPost_ret (v := .tuple #[pk0V, .int .i64 4]) (by simp [results, Try.results50, go_sem, pk0V, hc]) rfl ⟨rfl, ?_⟩
  repeat (refine Below.setCell ?_ (by simp) _)
  exact unhide HB
end

end Go.Proofs.Ytgpplekabohneaa
