/- Maps whose keys are structs and whose elements are pointers: look-up, a new key, deletion. -/
import Derived.Test.YtkbgjbbniaflhaaPp
import Derived.Maps.OwnSet
namespace Go.Proofs.Ytkbgjbbniaflhaa
open Go.RowKit
open Go.ChangeMaps (setBlock)

theorem findAsking_spec {P : Program} {w : World} {k : TypeId} {x : Value} : ∀ (l : List MapEntry) (i : Nat), (∀ e ∈ l, ∃ r : Bool, (Op.equal k x e.key).run P w = .ok r w ∧ (r = true ↔ e.key = x)) →
    ((Instr.findAsking k x l i).run P w = .ok none w ∧ ∀ e ∈ l, e.key ≠ x) ∨ ∃ j e, (Instr.findAsking k x l i).run P w = .ok (some (i + j, e.val)) w ∧ l[j]? = some e ∧ e.key = x
  | [], _, _ => .inl ⟨rfl, by simp⟩
  | e :: es, i, h => by
    obtain ⟨r, hr, hiff⟩ := h e (.head _)
    cases r with
    | true => exact .inr ⟨0, e, by simp [Instr.findAsking, hr, Result.andThen], rfl, hiff.1 rfl⟩
    | false =>
      have hne : e.key ≠ x := fun h' => by have := hiff.2 h'; cases this
      rcases findAsking_spec es (i + 1) (fun e' he' => h e' (.tail _ he')) with ⟨h1, h2⟩ | ⟨j, e', h1, h2, h3⟩
      · refine .inl ⟨by simp [Instr.findAsking, hr, Result.andThen, h1], fun e' he' => ?_⟩
        rcases List.mem_cons.1 he' with rfl | he'
        · exact hne
        · exact h2 e' he'
      · exact .inr ⟨j + 1, e', by simp [Instr.findAsking, hr, Result.andThen, h1]; omega, by simpa using h2, h3⟩

/-- what is asked of a map's type t, its keys' type k -/
structure KeyT (t k : TypeId) (K : Value → Prop) : Prop where
  ht : Try.prog.underlying t = some (.map k 103)
  hk : ∃ fs, Try.prog.underlying k = some (.struct fs)
  agg : ∀ x, K x → ∃ cs, x = .agg cs
  check : ∀ (w : World) (e : Bool) (x : Value), K x → (Instr.checkKey e 10000 k x).run Try.prog w = .ok () w
  eq : ∀ (w : World) (x y : Value), K x → K y → ∃ r : Bool, (Op.equal k x y).run Try.prog w = .ok r w ∧ (r = true ↔ y = x)

theorem find_struct {t k : TypeId} {K : Value → Prop} (H : KeyT t k K) (w : World) (x : Value) (hx : K x) (l : List MapEntry) (hl : ∀ e ∈ l, K e.key) :
    ((Instr.findKey k x l).run Try.prog w = .ok none w ∧ ∀ e ∈ l, e.key ≠ x) ∨ ∃ j e, (Instr.findKey k x l).run Try.prog w = .ok (some (j, e.val)) w ∧ l[j]? = some e ∧ e.key = x := by
  obtain ⟨fs, hfs⟩ := H.hk
  have hsame : (Instr.findKey k x l).run Try.prog w = (Instr.findAsking k x l).run Try.prog w := by
    cases l with
    | nil => simp [Instr.findKey, run_underlying hfs, Result.andThen, Instr.findNow, Instr.findAsking]
    | cons e es =>
      have hn : Instr.findNow (.struct fs) x (e :: es) 0 = none := by
        simp [Instr.findNow, Instr.sameNow]
      simp [Instr.findKey, run_underlying hfs, Result.andThen, hn]
  rw [hsame]
  rcases findAsking_spec (P := Try.prog) (w := w) (k := k) (x := x) l 0 (fun e he => H.eq w x e.key hx (hl e he)) with h | ⟨j, e, h1, h2, h3⟩
  · exact .inl h
  · exact .inr ⟨j, e, by simpa using h1, h2, h3⟩

theorem zero103 (w : World) : (zeroValue 103).run Try.prog w = .ok (.pointer none) w := by kernel_rfl

/-- 'v, ok := m[x]' -/
theorem run_look {t k : TypeId} {K : Value → Prop} (H : KeyT t k K) (w : World) (r : Nat) (es : Array MapEntry) (c : Nat) (x : Value) (hr : w.heap[r]? = some (.map es c)) (hx : K x) (hl : ∀ e ∈ es.toList, K e.key) :
    ((∀ e ∈ es.toList, e.key ≠ x) ∧ (Instr.lookup t (.map (some r)) x true).run Try.prog w = .ok (.tuple #[.pointer none, .bool false]) w) ∨
    ∃ e ∈ es.toList, e.key = x ∧ (Instr.lookup t (.map (some r)) x true).run Try.prog w = .ok (.tuple #[e.val, .bool true]) w := by
  rcases find_struct H w x hx es.toList hl with ⟨h1, h2⟩ | ⟨j, e, h1, h2, h3⟩
  · exact .inl ⟨h2, by simp [Instr.lookup, run_underlying H.ht, MapKept.run_getObj_map hr, H.check w _ x hx, h1, Result.andThen]⟩
  · exact .inr ⟨e, List.mem_of_getElem? h2, h3, by simp [Instr.lookup, run_underlying H.ht, MapKept.run_getObj_map hr, H.check w _ x hx, h1, Result.andThen]⟩

/-- 'm[x] = v' at a new key -/
theorem run_upd {t k : TypeId} {K : Value → Prop} (H : KeyT t k K) (w : World) (r : Nat) (es : Array MapEntry) (c : Nat) (x v : Value) (hr : w.heap[r]? = some (.map es c)) (hx : K x) (hl : ∀ e ∈ es.toList, K e.key) (hn : ∀ e ∈ es.toList, e.key ≠ x) :
    (Instr.mapUpdate t (.map (some r)) x v).run Try.prog w = .ok () (setBlock w r (.map (es.push { key := x, val := v, born := c }) (c + 1))) := by
  rcases find_struct H w x hx es.toList hl with ⟨h1, h2⟩ | ⟨j, e, h1, h2, h3⟩
  · simp [Instr.mapUpdate, run_underlying H.ht, MapKept.run_getObj_map hr, H.check w _ x hx, h1, MapKept.run_setObj_map _ hr, Result.andThen, setBlock]
  · exact absurd h3 (hn e (List.mem_of_getElem? h2))

/-- 'delete(m, x)' -/
theorem run_del {t k : TypeId} {K : Value → Prop} (H : KeyT t k K) (w : World) (r : Nat) (es : Array MapEntry) (c : Nat) (x : Value) (ty : TypeId) (hr : w.heap[r]? = some (.map es c)) (hx : K x) (hl : ∀ e ∈ es.toList, K e.key) (hin : ∃ e ∈ es.toList, e.key = x) :
    ∃ j e, es.toList[j]? = some e ∧ e.key = x ∧ (Builtin.delete_ #[t, k] ty #[.map (some r), x]).run Try.prog w = .ok (.tuple #[]) (setBlock w r (.map (es.eraseIdxIfInBounds j) c)) := by
  rcases find_struct H w x hx es.toList hl with ⟨h1, h2⟩ | ⟨j, e, h1, h2, h3⟩
  · obtain ⟨e, he, hk⟩ := hin
    exact absurd hk (h2 e he)
  · exact ⟨j, e, h2, h3, by simp [Builtin.delete_, run_underlying H.ht, MapKept.run_getObj_map hr, H.check w _ x hx, h1, MapKept.run_setObj_map _ hr, Result.andThen, setBlock]⟩

def KP (x : Value) : Prop := ∃ a b : Int, x = .agg #[.int .i64 a, .int .i64 b]
def KI (x : Value) : Prop := ∃ a b c : Int, x = .agg #[.int .i64 a, .int .i64 b, .int .i64 c]

theorem keyP : KeyT 97 102 KP where
  ht := Try.underlying97
  hk := ⟨_, Try.underlying102⟩
  agg := by rintro x ⟨a, b, rfl⟩; exact ⟨_, rfl⟩
  check := by
    rintro w e x ⟨a, b, rfl⟩
    cases e <;> kernel_rfl
  eq := by
    rintro w x y ⟨a, b, rfl⟩ ⟨c, d, rfl⟩
    refine ⟨_, eq102 9998 a b c d w, ?_⟩
    constructor
    · intro h
      simp at h
      rw [h.1, h.2]
    · intro h
      have := Value.agg.inj h
      simp at this
      simp [this]

theorem keyI : KeyT 98 129 KI where
  ht := Try.underlying98
  hk := ⟨_, Try.underlying129⟩
  agg := by rintro x ⟨a, b, c, rfl⟩; exact ⟨_, rfl⟩
  check := by
    rintro w e x ⟨a, b, c, rfl⟩
    cases e <;> kernel_rfl
  eq := by
    rintro w x y ⟨a, b, c, rfl⟩ ⟨a', b', c', rfl⟩
    refine ⟨_, eq129 9997 a b c a' b' c' w, ?_⟩
    constructor
    · intro h
      simp at h
      rw [h.1, h.2.1, h.2.2]
    · intro h
      have := Value.agg.inj h
      simp at this
      simp [this]

end Go.Proofs.Ytkbgjbbniaflhaa
