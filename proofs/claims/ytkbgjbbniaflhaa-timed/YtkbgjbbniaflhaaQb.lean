/- What a tenant's calls come to, in plain functions: the document's P3 to P7 on a list of mappings; the table. -/
import Derived.Test.YtkbgjbbniaflhaaPp
namespace Go.Proofs.Ytkbgjbbniaflhaa

/-- a tenant: its face, its block of ports, its mappings -/
structure Tn where
  outer : Int
  low : Int
  high : Int
  maps : List Mp

def isP (p q : Int) (m : Mp) : Bool := m.proto == p && m.port == q
def isI (p a b : Int) (m : Mp) : Bool := m.proto == p && (m.ia == a && m.ip == b)

/-- the lowest of n ports from q on that is no mapping's -/
def freeF (l : List Mp) (p : Int) : Nat → Int → Option Int
  | 0, _ => none
  | n + 1, q => if (l.find? (isP p q)).isSome then freeF l p n (q + 1) else some q

/-- a mapping in the place of the one with its Proto and Port -/
def setM (l : List Mp) (m : Mp) : List Mp := l.map fun y => if isP m.proto m.port y then m else y

def inF (T : Tn) (p : Pk) : Tn × Pk × Int :=
  if p.da = T.outer then
    match T.maps.find? (isP p.proto p.dp) with
    | none => (T, pk0, 4)
    | some m =>
      if m.peers.contains p.sa then
        ({ T with maps := if p.proto = 2 then setM T.maps { marksF m p.out p.syn p.fin p.rst with idle := 0 } else T.maps }, { p with da := m.ia, dp := m.ip }, 0)
      else (T, pk0, 5)
  else (T, pk0, 4)

def useM (m : Mp) (p : Pk) : Mp :=
  if p.proto = 2 then marksF { m with peers := useF m.peers p.da, idle := 0 } p.out p.syn p.fin p.rst else { m with peers := useF m.peers p.da, idle := 0 }

def outW (T : Tn) (m : Mp) (p : Pk) : Tn × Pk × Int :=
  if p.da = T.outer then inF { T with maps := setM T.maps (useM m p) } { p with sa := T.outer, sp := m.port, out := false }
  else ({ T with maps := setM T.maps (useM m p) }, { p with sa := T.outer, sp := m.port }, 0)

def newM (proto ia ip port : Int) : Mp := ⟨proto, ia, ip, port, [], if proto = 2 then 1 else 0, 0, false, false⟩

def outF (T : Tn) (p : Pk) : Tn × Pk × Int :=
  match T.maps.find? (isI p.proto p.sa p.sp) with
  | some m => outW T m p
  | none =>
    if p.proto = 2 ∧ p.syn = false then (T, pk0, 2)
    else match freeF T.maps p.proto (T.high + 1 - T.low).toNat T.low with
      | none => (T, pk0, 3)
      | some q => outW { T with maps := T.maps ++ [newM p.proto p.sa p.sp q] } (newM p.proto p.sa p.sp q) p

def errOutF (T : Tn) (p : Pk) : Pk × Int :=
  match T.maps.find? (isI p.proto p.qda p.qdp) with
  | none => (pk0, 4)
  | some m => if m.peers.contains p.qsa then ({ p with sa := T.outer, qda := T.outer, qdp := m.port }, 0) else (pk0, 5)

def errInF (T : Tn) (p : Pk) : Pk × Int :=
  if p.qsa = T.outer then
    match T.maps.find? (isP p.proto p.qsp) with
    | none => (pk0, 4)
    | some m => if p.da = T.outer then (if m.peers.contains p.qda then ({ p with da := m.ia, qsa := m.ia, qsp := m.ip }, 0) else (pk0, 5)) else (pk0, 4)
  else (pk0, 4)

/-- P5 to P7 -/
def passF (T : Tn) (p : Pk) : Tn × Pk × Int :=
  if p.err then (if p.out then (T, errOutF T p) else (T, errInF T p)) else (if p.out then outF T p else inF T p)

/-- P3 -/
def tickM (n : Int) (m : Mp) : Option Mp := if m.idle + n < spanF m.proto m.st then some { m with idle := m.idle + n } else none

def tickF (n : Int) (T : Tn) : Tn := { T with maps := T.maps.filterMap (tickM n) }

/-- the mappings of one Proto by rising Port -/
def rowF (l : List Mp) (p : Int) : Nat → Int → List Mp
  | 0, _ => []
  | n + 1, q => (match l.find? (isP p q) with | some m => [m] | none => []) ++ rowF l p n (q + 1)

/-- P2: the table -/
def tableF (T : Tn) : List Mp :=
  rowF T.maps 1 (T.high + 1 - T.low).toNat T.low ++ (rowF T.maps 2 (T.high + 1 - T.low).toNat T.low ++ rowF T.maps 3 (T.high + 1 - T.low).toNat T.low)

/-- what holds of a mapping between the calls -/
def okM (T : Tn) (m : Mp) : Prop :=
  1 ≤ m.proto ∧ m.proto ≤ 3 ∧ T.low ≤ m.port ∧ m.port ≤ T.high ∧ m.peers.length ≤ 4 ∧ 0 ≤ m.idle ∧ m.idle < 1000

/-- two mappings share no end, no port -/
def apartM (a b : Mp) : Prop := ¬ (a.proto = b.proto ∧ a.port = b.port) ∧ ¬ (a.proto = b.proto ∧ a.ia = b.ia ∧ a.ip = b.ip)

structure GoodT (T : Tn) : Prop where
  low : 0 ≤ T.low
  high : T.high ≤ 65535
  span : T.high - T.low < 64
  le : T.low ≤ T.high
  ok : ∀ m ∈ T.maps, okM T m
  apart : T.maps.Pairwise apartM

theorem apart_mem {l : List Mp} (h : l.Pairwise apartM) {a b : Mp} (ha : a ∈ l) (hb : b ∈ l) (hk : (a.proto = b.proto ∧ a.port = b.port) ∨ (a.proto = b.proto ∧ a.ia = b.ia ∧ a.ip = b.ip)) : a = b := by
  induction l with
  | nil => cases ha
  | cons x r ih =>
    obtain ⟨h1, h2⟩ := List.pairwise_cons.1 h
    rcases List.mem_cons.1 ha with rfl | ha'
    · rcases List.mem_cons.1 hb with rfl | hb'
      · rfl
      · rcases hk with hk | hk
        · exact absurd hk (h1 b hb').1
        · exact absurd hk (h1 b hb').2
    · rcases List.mem_cons.1 hb with rfl | hb'
      · rcases hk with hk | hk
        · exact absurd ⟨hk.1.symm, hk.2.symm⟩ (h1 a ha').1
        · exact absurd ⟨hk.1.symm, hk.2.1.symm, hk.2.2.symm⟩ (h1 a ha').2
      · exact ih h2 ha' hb'

theorem isP_iff {p q : Int} {m : Mp} : isP p q m = true ↔ m.proto = p ∧ m.port = q := by simp [isP]
theorem isI_iff {p a b : Int} {m : Mp} : isI p a b m = true ↔ m.proto = p ∧ m.ia = a ∧ m.ip = b := by simp [isI]

theorem findP_of {l : List Mp} (h : l.Pairwise apartM) {m : Mp} (hm : m ∈ l) {p q : Int} (h1 : m.proto = p) (h2 : m.port = q) : l.find? (isP p q) = some m := by
  cases hf : l.find? (isP p q) with
  | none => exact absurd (isP_iff.2 ⟨h1, h2⟩) (by simpa using List.find?_eq_none.1 hf m hm)
  | some x =>
    have hx := isP_iff.1 (List.find?_some hf)
    rw [apart_mem h (List.mem_of_find?_eq_some hf) hm (.inl ⟨hx.1.trans h1.symm, hx.2.trans h2.symm⟩)]

theorem findI_of {l : List Mp} (h : l.Pairwise apartM) {m : Mp} (hm : m ∈ l) {p a b : Int} (h1 : m.proto = p) (h2 : m.ia = a) (h3 : m.ip = b) : l.find? (isI p a b) = some m := by
  cases hf : l.find? (isI p a b) with
  | none => exact absurd (isI_iff.2 ⟨h1, h2, h3⟩) (by simpa using List.find?_eq_none.1 hf m hm)
  | some x =>
    have hx := isI_iff.1 (List.find?_some hf)
    rw [apart_mem h (List.mem_of_find?_eq_some hf) hm (.inr ⟨hx.1.trans h1.symm, hx.2.1.trans h2.symm, hx.2.2.trans h3.symm⟩)]

/-- the same ends, the same port -/
def sameK (a b : Mp) : Prop := a.proto = b.proto ∧ a.ia = b.ia ∧ a.ip = b.ip ∧ a.port = b.port

theorem marksF_same (m : Mp) (a b c d : Bool) : sameK (marksF m a b c d) m := by
  unfold marksF
  dsimp only
  repeat' split
  all_goals exact ⟨rfl, rfl, rfl, rfl⟩

theorem marksF_idle (m : Mp) (a b c d : Bool) : (marksF m a b c d).idle = m.idle := by
  unfold marksF
  dsimp only
  repeat' split
  all_goals rfl

theorem useF_length (l : List Int) (a : Int) (h : l.length ≤ 4) : (useF l a).length ≤ 4 := by
  have h1 : (l.erase a).length ≤ l.length := List.length_erase_le
  unfold useF
  split
  · rw [List.length_eraseIdx]
    split <;> simp at * <;> omega
  · simp at *
    omega

theorem setM_apart {l : List Mp} {m : Mp} (h : l.Pairwise apartM) (hm : ∃ x ∈ l, sameK m x) : (setM l m).Pairwise apartM := by
  obtain ⟨x, hx, hs⟩ := hm
  unfold setM
  rw [List.pairwise_map]
  refine h.imp_of_mem ?_
  intro a b ha hb hab
  have key : ∀ y ∈ l, isP m.proto m.port y = true → y = x := fun y hy hp => by
    have := isP_iff.1 hp
    exact apart_mem h hy hx (.inl ⟨this.1.trans hs.1, this.2.trans hs.2.2.2⟩)
  obtain ⟨s1, s2, s3, s4⟩ := hs
  by_cases h1 : isP m.proto m.port a = true
  · by_cases h2 : isP m.proto m.port b = true
    · have ea := key a ha h1
      have eb := key b hb h2
      subst ea
      subst eb
      exact absurd ⟨rfl, rfl⟩ hab.1
    · rw [if_pos h1, if_neg h2]
      have ea := key a ha h1
      subst ea
      unfold apartM at *
      rw [s1, s2, s3, s4]
      exact hab
  · by_cases h2 : isP m.proto m.port b = true
    · rw [if_neg h1, if_pos h2]
      have eb := key b hb h2
      subst eb
      unfold apartM at *
      rw [s1, s2, s3, s4]
      exact hab
    · rw [if_neg h1, if_neg h2]
      exact hab

theorem GoodT.setM {T : Tn} (h : GoodT T) {m : Mp} (hm : ∃ x ∈ T.maps, sameK m x) (hp : m.peers.length ≤ 4) (h0 : 0 ≤ m.idle) (h1 : m.idle < 1000) : GoodT { T with maps := setM T.maps m } := by
  refine ⟨h.low, h.high, h.span, h.le, ?_, setM_apart h.apart hm⟩
  obtain ⟨x, hx, hs⟩ := hm
  intro y hy
  obtain ⟨z, hz, rfl⟩ := List.mem_map.1 hy
  split
  · obtain ⟨a1, a2, a3, a4, _⟩ := h.ok x hx
    obtain ⟨s1, s2, s3, s4⟩ := hs
    exact ⟨by omega, by omega, by show T.low ≤ m.port; omega, by show m.port ≤ T.high; omega, hp, h0, h1⟩
  · exact h.ok z hz

end Go.Proofs.Ytkbgjbbniaflhaa
