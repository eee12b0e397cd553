/- A tenant in memory: its block, its two maps, its mappings. -/
import Derived.Test.YtkbgjbbniaflhaaQa
import Derived.Test.YtkbgjbbniaflhaaQb
namespace Go.Proofs.Ytkbgjbbniaflhaa
open Go.RowKit
open Go.ChangeMaps (setBlock)

/-- a mapping and where it lies -/
structure Cl where
  g : Nat
  sv : Value
  m : Mp

def kP (m : Mp) : Value := .agg #[.int .i64 m.proto, .int .i64 m.port]
def kI (m : Mp) : Value := .agg #[.int .i64 m.proto, .int .i64 m.ia, .int .i64 m.ip]
def ptrV (g : Nat) : Value := .pointer (some ⟨g, 0, none⟩)

theorem pw_eq {α : Type} {R : α → α → Prop} {l : List α} (h : l.Pairwise R) {x y : α} (hx : x ∈ l) (hy : y ∈ l) (h1 : ¬ R x y) (h2 : ¬ R y x) : x = y := by
  induction l with
  | nil => cases hx
  | cons a r ih =>
    obtain ⟨k1, k2⟩ := List.pairwise_cons.1 h
    rcases List.mem_cons.1 hx with rfl | hx'
    · rcases List.mem_cons.1 hy with rfl | hy'
      · rfl
      · exact absurd (k1 y hy') h1
    · rcases List.mem_cons.1 hy with rfl | hy'
      · exact absurd (k1 x hx') h2
      · exact ih k2 hx' hy'

/-- two mappings lie apart -/
def apartC (x y : Cl) : Prop := x.g ≠ y.g ∧ (∀ b, x.sv.ownBlock = some b → y.sv.ownBlock ≠ some b) ∧ apartM x.m y.m

structure TenR (w : World) (S : Nat → Prop) (g hp hi : Nat) (T : Tn) (L : List Cl) : Prop where
  sg : S g
  shp : S hp
  shi : S hi
  ne : hp ≠ hi
  bound : ∀ k, S k → k < w.heap.size
  blk : w.heap[g]? = some (.cells #[.int .i64 T.outer, .int .i64 T.low, .int .i64 T.high, .map (some hp), .map (some hi)] 100 (0, 0))
  mp : ∃ es c, w.heap[hp]? = some (.map es c) ∧ es.toList.map (fun e => (e.key, e.val)) = L.map (fun x => (kP x.m, ptrV x.g)) ∧ (∀ e ∈ es.toList, e.born < c) ∧ (es.toList.map (·.born)).Nodup
  mi : ∃ es c, w.heap[hi]? = some (.map es c) ∧ es.toList.map (fun e => (e.key, e.val)) = L.map (fun x => (kI x.m, ptrV x.g))
  maps : L.map (·.m) = T.maps
  mem : ∀ x ∈ L, Mem w x.g x.sv x.m ∧ S x.g ∧ ∀ b, x.sv.ownBlock = some b → S b
  apart : L.Pairwise apartC
  good : GoodT T

def grow (S : Nat → Prop) (w w' : World) : Nat → Prop := fun k => S k ∨ (w.heap.size ≤ k ∧ k < w'.heap.size)

theorem grow_trans {S : Nat → Prop} {a b c : World} (h1 : a.heap.size ≤ b.heap.size) (h2 : b.heap.size ≤ c.heap.size) : grow (grow S a b) b c = grow S a c := by
  funext k
  unfold grow
  refine propext ⟨?_, ?_⟩
  · rintro ((h | h) | h)
    · exact .inl h
    · exact .inr ⟨h.1, by omega⟩
    · exact .inr ⟨by omega, h.2⟩
  · rintro (h | h)
    · exact .inl (.inl h)
    · by_cases hk : k < b.heap.size
      · exact .inl (.inr ⟨h.1, hk⟩)
      · exact .inr ⟨by omega, h.2⟩

theorem Mem.keep {w w' : World} {g : Nat} {sv : Value} {m : Mp} {X : Nat → Prop} (h : Mem w g sv m) (hF : Fr X w w') (hg : ¬ X g) (hb : ∀ b, sv.ownBlock = some b → ¬ X b) : Mem w' g sv m :=
  ⟨hF.some h.1 hg, ownsRow_keep h.2 hF hb⟩

/-- a tenant stays while other blocks turn -/
theorem TenR.keep {w w' : World} {S X : Nat → Prop} {g hp hi : Nat} {T : Tn} {L : List Cl} (h : TenR w S g hp hi T L) (hF : Fr X w w') (hX : ∀ k, S k → ¬ X k) : TenR w' S g hp hi T L where
  sg := h.sg
  shp := h.shp
  shi := h.shi
  ne := h.ne
  bound := fun k hk => Nat.lt_of_lt_of_le (h.bound k hk) hF.size
  blk := hF.some h.blk (hX _ h.sg)
  mp := by
    obtain ⟨es, c, h1, h2⟩ := h.mp
    exact ⟨es, c, hF.some h1 (hX _ h.shp), h2⟩
  mi := by
    obtain ⟨es, c, h1, h2⟩ := h.mi
    exact ⟨es, c, hF.some h1 (hX _ h.shi), h2⟩
  maps := h.maps
  mem := fun x hx => ⟨(h.mem x hx).1.keep hF (hX _ (h.mem x hx).2.1) (fun b hb => hX _ ((h.mem x hx).2.2 b hb)), (h.mem x hx).2⟩
  apart := h.apart
  good := h.good

theorem TenR.mono {w : World} {S S' : Nat → Prop} {g hp hi : Nat} {T : Tn} {L : List Cl} (h : TenR w S g hp hi T L) (hS : ∀ k, S k → S' k) (hb : ∀ k, S' k → k < w.heap.size) : TenR w S' g hp hi T L :=
  { h with sg := hS _ h.sg, shp := hS _ h.shp, shi := hS _ h.shi, bound := hb, mem := fun x hx => ⟨(h.mem x hx).1, hS _ (h.mem x hx).2.1, fun b hb => hS _ ((h.mem x hx).2.2 b hb)⟩ }

theorem keysP {es : Array MapEntry} {L : List Cl} (h : es.toList.map (fun e => (e.key, e.val)) = L.map (fun x => (kP x.m, ptrV x.g))) : (∀ e ∈ es.toList, ∃ x ∈ L, e.key = kP x.m ∧ e.val = ptrV x.g) ∧ ∀ x ∈ L, ∃ e ∈ es.toList, e.key = kP x.m ∧ e.val = ptrV x.g := by
  constructor
  · intro e he
    have : (e.key, e.val) ∈ es.toList.map (fun e => (e.key, e.val)) := List.mem_map.2 ⟨e, he, rfl⟩
    rw [h] at this
    obtain ⟨x, hx, e'⟩ := List.mem_map.1 this
    exact ⟨x, hx, (Prod.mk.inj e').1.symm, (Prod.mk.inj e').2.symm⟩
  · intro x hx
    have : (kP x.m, ptrV x.g) ∈ L.map (fun x => (kP x.m, ptrV x.g)) := List.mem_map.2 ⟨x, hx, rfl⟩
    rw [← h] at this
    obtain ⟨e, he, e'⟩ := List.mem_map.1 this
    exact ⟨e, he, (Prod.mk.inj e').1, (Prod.mk.inj e').2⟩

theorem keysI {es : Array MapEntry} {L : List Cl} (h : es.toList.map (fun e => (e.key, e.val)) = L.map (fun x => (kI x.m, ptrV x.g))) : (∀ e ∈ es.toList, ∃ x ∈ L, e.key = kI x.m ∧ e.val = ptrV x.g) ∧ ∀ x ∈ L, ∃ e ∈ es.toList, e.key = kI x.m ∧ e.val = ptrV x.g := by
  constructor
  · intro e he
    have : (e.key, e.val) ∈ es.toList.map (fun e => (e.key, e.val)) := List.mem_map.2 ⟨e, he, rfl⟩
    rw [h] at this
    obtain ⟨x, hx, e'⟩ := List.mem_map.1 this
    exact ⟨x, hx, (Prod.mk.inj e').1.symm, (Prod.mk.inj e').2.symm⟩
  · intro x hx
    have : (kI x.m, ptrV x.g) ∈ L.map (fun x => (kI x.m, ptrV x.g)) := List.mem_map.2 ⟨x, hx, rfl⟩
    rw [← h] at this
    obtain ⟨e, he, e'⟩ := List.mem_map.1 this
    exact ⟨e, he, (Prod.mk.inj e').1, (Prod.mk.inj e').2⟩

theorem kP_iff {m : Mp} {p q : Int} : kP m = .agg #[.int .i64 p, .int .i64 q] ↔ m.proto = p ∧ m.port = q := by
  unfold kP
  constructor
  · intro h
    have := Value.agg.inj h
    simpa using this
  · rintro ⟨rfl, rfl⟩
    rfl

theorem kI_iff {m : Mp} {p a b : Int} : kI m = .agg #[.int .i64 p, .int .i64 a, .int .i64 b] ↔ m.proto = p ∧ m.ia = a ∧ m.ip = b := by
  unfold kI
  constructor
  · intro h
    have := Value.agg.inj h
    simpa using this
  · rintro ⟨rfl, rfl, rfl⟩
    rfl

/-- 't.byPort[portKey{p, q}]' -/
theorem TenR.lookP {w : World} {S : Nat → Prop} {g hp hi : Nat} {T : Tn} {L : List Cl} (h : TenR w S g hp hi T L) (p q : Int) :
    (T.maps.find? (isP p q) = none ∧ (Instr.lookup 97 (.map (some hp)) (.agg #[.int .i64 p, .int .i64 q]) true).run Try.prog w = .ok (.tuple #[.pointer none, .bool false]) w) ∨
    ∃ x ∈ L, T.maps.find? (isP p q) = some x.m ∧ (Instr.lookup 97 (.map (some hp)) (.agg #[.int .i64 p, .int .i64 q]) true).run Try.prog w = .ok (.tuple #[.pointer (some ⟨x.g, 0, none⟩), .bool true]) w := by
  obtain ⟨es, c, h1, h2, _⟩ := h.mp
  obtain ⟨k1, k2⟩ := keysP h2
  rcases run_look keyP w hp es c (.agg #[.int .i64 p, .int .i64 q]) h1 ⟨p, q, rfl⟩ (fun e he => by obtain ⟨x, _, hk, _⟩ := k1 e he; exact ⟨_, _, hk⟩) with ⟨hn, hr⟩ | ⟨e, he, hk, hr⟩
  · refine .inl ⟨List.find?_eq_none.2 (fun m hm => ?_), hr⟩
    rw [← h.maps] at hm
    obtain ⟨x, hx, rfl⟩ := List.mem_map.1 hm
    obtain ⟨e, he, hk, _⟩ := k2 x hx
    intro hp'
    exact hn e he (hk.trans (kP_iff.2 (isP_iff.1 hp')))
  · obtain ⟨x, hx, hk', hv⟩ := k1 e he
    rw [hv] at hr
    have hpq := kP_iff.1 (hk'.symm.trans hk)
    exact .inr ⟨x, hx, findP_of h.good.apart (by rw [← h.maps]; exact List.mem_map.2 ⟨x, hx, rfl⟩) hpq.1 hpq.2, hr⟩

/-- 't.byInside[insideKey{p, e}]' -/
theorem TenR.lookI {w : World} {S : Nat → Prop} {g hp hi : Nat} {T : Tn} {L : List Cl} (h : TenR w S g hp hi T L) (p a b : Int) :
    (T.maps.find? (isI p a b) = none ∧ (Instr.lookup 98 (.map (some hi)) (.agg #[.int .i64 p, .int .i64 a, .int .i64 b]) true).run Try.prog w = .ok (.tuple #[.pointer none, .bool false]) w) ∨
    ∃ x ∈ L, T.maps.find? (isI p a b) = some x.m ∧ (Instr.lookup 98 (.map (some hi)) (.agg #[.int .i64 p, .int .i64 a, .int .i64 b]) true).run Try.prog w = .ok (.tuple #[.pointer (some ⟨x.g, 0, none⟩), .bool true]) w := by
  obtain ⟨es, c, h1, h2⟩ := h.mi
  obtain ⟨k1, k2⟩ := keysI h2
  rcases run_look keyI w hi es c (.agg #[.int .i64 p, .int .i64 a, .int .i64 b]) h1 ⟨p, a, b, rfl⟩ (fun e he => by obtain ⟨x, _, hk, _⟩ := k1 e he; exact ⟨_, _, _, hk⟩) with ⟨hn, hr⟩ | ⟨e, he, hk, hr⟩
  · refine .inl ⟨List.find?_eq_none.2 (fun m hm => ?_), hr⟩
    rw [← h.maps] at hm
    obtain ⟨x, hx, rfl⟩ := List.mem_map.1 hm
    obtain ⟨e, he, hk, _⟩ := k2 x hx
    intro hp'
    exact hn e he (hk.trans (kI_iff.2 (isI_iff.1 hp')))
  · obtain ⟨x, hx, hk', hv⟩ := k1 e he
    rw [hv] at hr
    have hpq := kI_iff.1 (hk'.symm.trans hk)
    exact .inr ⟨x, hx, findI_of h.good.apart (by rw [← h.maps]; exact List.mem_map.2 ⟨x, hx, rfl⟩) hpq.1 hpq.2.1 hpq.2.2, hr⟩

theorem map_ne_cells {w : World} {a b : Nat} {es : Array MapEntry} {c : Nat} {cs : Array Value} {t : TypeId} {f : Nat × Nat} (h1 : w.heap[a]? = some (.map es c)) (h2 : w.heap[b]? = some (.cells cs t f)) : a ≠ b := by
  rintro rfl
  rw [h1] at h2
  cases h2

theorem cells_ne {w : World} {a b : Nat} {cs cs' : Array Value} {t t' : TypeId} {f f' : Nat × Nat} (h1 : w.heap[a]? = some (.cells cs t f)) (h2 : w.heap[b]? = some (.cells cs' t' f')) (ht : t ≠ t') : a ≠ b := by
  rintro rfl
  rw [h1] at h2
  cases h2
  exact ht rfl

theorem row_ne_map {w : World} {sv : Value} {n : Nat} {xs : List Value} (hown : w.ownsRow 0 3 1 sv n xs) {g : Nat} {es : Array MapEntry} {c : Nat} (hg : w.heap[g]? = some (.map es c)) : sv.ownBlock ≠ some g := by
  intro h
  rcases hown.2 with ⟨rfl, _⟩ | ⟨b, cap, cur, rfl, _, hb, _⟩
  · cases h
  · cases h
    rw [hg] at hb
    cases hb

/-- one mapping turns -/
theorem TenR.upd {w w' : World} {S : Nat → Prop} {g hp hi : Nat} {T : Tn} {L : List Cl} (h : TenR w S g hp hi T L) {x : Cl} (hx : x ∈ L) {sv' : Value} {m' : Mp} (hM : Mem w' x.g sv' m') (hs : sameK m' x.m)
    (hF : Fr (fun k => k = x.g ∨ x.sv.ownBlock = some k) w w') (hb : ∀ b, sv'.ownBlock = some b → x.sv.ownBlock = some b ∨ w.heap.size ≤ b) (hp4 : m'.peers.length ≤ 4) (h0 : 0 ≤ m'.idle) (h1 : m'.idle < 1000) :
    TenR w' (grow S w w') g hp hi { T with maps := setM T.maps m' } (L.map fun y => if y.g = x.g then ⟨x.g, sv', m'⟩ else y) := by
  obtain ⟨hxM, hxS, hxB⟩ := h.mem x hx
  have uniq : ∀ y ∈ L, y.g = x.g → y = x := fun y hy e => pw_eq h.apart hy hx (fun r => r.1 e) (fun r => r.1 e.symm)
  have uniqM : ∀ y ∈ L, isP m'.proto m'.port y.m = true ↔ y.g = x.g := fun y hy => by
    constructor
    · intro hp'
      have := isP_iff.1 hp'
      have e : y = x := pw_eq h.apart hy hx (fun r => r.2.2.1 ⟨this.1.trans hs.1, this.2.trans hs.2.2.2⟩) (fun r => r.2.2.1 ⟨(this.1.trans hs.1).symm, (this.2.trans hs.2.2.2).symm⟩)
      rw [e]
    · intro e
      rw [uniq y hy e]
      exact isP_iff.2 ⟨hs.1.symm, hs.2.2.2.symm⟩
  have hmx : ∃ z ∈ T.maps, sameK m' z := ⟨x.m, by rw [← h.maps]; exact List.mem_map.2 ⟨x, hx, rfl⟩, hs⟩
  have hkp : kP m' = kP x.m := by unfold kP; rw [hs.1, hs.2.2.2]
  have hki : kI m' = kI x.m := by unfold kI; rw [hs.1, hs.2.1, hs.2.2.1]
  have hlt : ∀ b, sv'.ownBlock = some b → b < w'.heap.size := fun b hb => (hM.2.lt b hb).2
  refine ⟨.inl h.sg, .inl h.shp, .inl h.shi, h.ne, ?_, ?_, ?_, ?_, ?_, ?_, ?_, h.good.setM hmx hp4 h0 h1⟩
  · rintro k (hk | hk)
    · exact Nat.lt_of_lt_of_le (h.bound k hk) hF.size
    · exact hk.2
  · refine hF.some h.blk ?_
    rintro (e | e)
    · exact cells_ne h.blk hxM.1 (by decide) e
    · exact row_ne hxM.2 h.blk (by decide) e
  · obtain ⟨es, c, k1, k2, k3⟩ := h.mp
    refine ⟨es, c, hF.some k1 ?_, ?_, k3⟩
    · rintro (e | e)
      · exact map_ne_cells k1 hxM.1 e
      · exact row_ne_map hxM.2 k1 e
    · rw [k2, List.map_map]
      refine List.map_congr_left (fun y hy => ?_)
      show _ = (fun x => (kP x.m, ptrV x.g)) (if y.g = x.g then (⟨x.g, sv', m'⟩ : Cl) else y)
      split
      · rename_i e
        rw [uniq y hy e, ← hkp]
      · rfl
  · obtain ⟨es, c, k1, k2⟩ := h.mi
    refine ⟨es, c, hF.some k1 ?_, ?_⟩
    · rintro (e | e)
      · exact map_ne_cells k1 hxM.1 e
      · exact row_ne_map hxM.2 k1 e
    · rw [k2, List.map_map]
      refine List.map_congr_left (fun y hy => ?_)
      show _ = (fun x => (kI x.m, ptrV x.g)) (if y.g = x.g then (⟨x.g, sv', m'⟩ : Cl) else y)
      split
      · rename_i e
        rw [uniq y hy e, ← hki]
      · rfl
  · show (L.map fun y => if y.g = x.g then (⟨x.g, sv', m'⟩ : Cl) else y).map (·.m) = setM T.maps m'
    unfold setM
    rw [← h.maps, List.map_map, List.map_map]
    refine List.map_congr_left (fun y hy => ?_)
    show (if y.g = x.g then (⟨x.g, sv', m'⟩ : Cl) else y).m = if isP m'.proto m'.port y.m then m' else y.m
    by_cases e : y.g = x.g
    · rw [if_pos e, if_pos ((uniqM y hy).2 e)]
    · rw [if_neg e, if_neg (fun e' => e ((uniqM y hy).1 e'))]
  · intro z hz
    obtain ⟨y, hy, rfl⟩ := List.mem_map.1 hz
    by_cases e : y.g = x.g
    · rw [if_pos e]
      refine ⟨hM, .inl hxS, fun b hb' => ?_⟩
      rcases hb b hb' with h' | h'
      · exact .inl (hxB b h')
      · exact .inr ⟨h', hlt b hb'⟩
    · rw [if_neg e]
      obtain ⟨y1, y2, y3⟩ := h.mem y hy
      have hyx : apartC y x ∨ apartC x y := by
        by_cases hr : apartC y x
        · exact .inl hr
        · by_cases hr' : apartC x y
          · exact .inr hr'
          · exact absurd (congrArg Cl.g (pw_eq h.apart hy hx hr hr')) e
      refine ⟨y1.keep hF ?_ ?_, .inl y2, fun b hb' => .inl (y3 b hb')⟩
      · rintro (e' | e')
        · exact e e'
        · exact row_ne hxM.2 y1.1 (by decide) e'
      · intro b hb'
        rintro (e' | e')
        · exact row_ne y1.2 hxM.1 (by decide) (e' ▸ hb')
        · rcases hyx with hr | hr
          · exact hr.2.1 b hb' e'
          · exact hr.2.1 b e' hb'
  · rw [List.pairwise_map]
    refine h.apart.imp_of_mem ?_
    intro a b ha hb' hab
    by_cases ea : a.g = x.g
    · have e1 := uniq a ha ea
      subst e1
      have eb : ¬ b.g = a.g := fun e => hab.1 e.symm
      rw [if_pos rfl, if_neg eb]
      refine ⟨hab.1, fun c hc => ?_, ?_⟩
      · rcases hb c hc with h' | h'
        · exact hab.2.1 c h'
        · intro hcb
          have := h.bound c ((h.mem b hb').2.2 c hcb)
          omega
      · show apartM m' b.m
        unfold apartM
        rw [hs.1, hs.2.1, hs.2.2.1, hs.2.2.2]
        exact hab.2.2
    · by_cases eb : b.g = x.g
      · have e1 := uniq b hb' eb
        subst e1
        rw [if_neg ea, if_pos rfl]
        refine ⟨hab.1, fun c hc hcs => ?_, ?_⟩
        · rcases hb c hcs with h' | h'
          · exact hab.2.1 c hc h'
          · have := h.bound c ((h.mem a ha).2.2 c hc)
            omega
        · show apartM a.m m'
          unfold apartM
          rw [hs.1, hs.2.1, hs.2.2.1, hs.2.2.2]
          exact hab.2.2
      · rw [if_neg ea, if_neg eb]
        exact hab

end Go.Proofs.Ytkbgjbbniaflhaa
