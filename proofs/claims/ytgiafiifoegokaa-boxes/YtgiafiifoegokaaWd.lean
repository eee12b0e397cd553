/- 'newTenant', 'New': the program's box: a map from tags to tenants, each with an empty map of mappings. -/
import Derived.Test.YtgiafiifoegokaaWc
import Derived.Maps.OwnSet
namespace Go.Proofs.Ytgiafiifoegokaa
open Go.RowKit
open Go.ChangeMaps (setBlock)

attribute [local go_sem ↓] Go.wp_at_zero Go.wp_at_succ

theorem newTenant_any (a b c d : Int) (w : World) :
    Calls Try.prog 28 #[.agg #[.int .i64 a, .int .i64 b, .int .i64 c, .int .i64 d]] w fun e w' =>
      e = .returned (.pointer (some ⟨w.heap.size + 2, 0, none⟩)) ∧
      w' = ((w.alloc (.cells #[.int .i64 a, .int .i64 b, .int .i64 c, .int .i64 d] 37)).alloc (.map #[] 0)).alloc (.cells #[.int .i64 c, .int .i64 d, .map (some (w.heap.size + 1))] 106) := by
  have hmm := @run_makeMap Try.prog
  go_enter Try.func28, Try.ntmps28
  go_wp2
  go_ret
  exact ⟨rfl, rfl⟩

theorem int_inj {a b : Int} (h : Value.int .i64 a = Value.int .i64 b) : a = b := by
  cases h
  rfl

theorem run_update_new (w : World) (r : Nat) (es : Array MapEntry) (clock : Nat) (k : Int) (v : Value) (hr : w.heap[r]? = some (.map es clock)) (hk : ∀ e ∈ es.toList, ∃ b, e.key = .int .i64 b ∧ b ≠ k) :
    (Instr.mapUpdate 88 (.map (some r)) (.int .i64 k) v).run Try.prog w = .ok () (setBlock w r (.map (es.push { key := .int .i64 k, val := v, born := clock }) (clock + 1))) := by
  have hd : MapKept.IsKey (.int .i64) (.int .i64 k) := rfl
  rcases MapKept.findNow_spec hd es.toList 0 (fun x hx => by obtain ⟨b, hb, _⟩ := hk x hx; rw [hb]; rfl) with ⟨h1, _⟩ | ⟨j, e, h1, h2, h3⟩
  · simp [Instr.mapUpdate, run_underlying Try.underlying88, MapKept.run_getObj_map hr, MapKept.run_checkKey Try.underlying3 hd, MapKept.run_findKey Try.underlying3 h1, MapKept.run_setObj_map _ hr, Result.andThen, setBlock]
  · obtain ⟨b, hb, hne⟩ := hk e (List.mem_of_getElem? h2)
    exact absurd (int_inj (hb.symm.trans h3)) hne

/-- 'm[k]' with 'ok', on a map keyed by int: nothing there -/
theorem run_look_none (w : World) (r : Nat) (es : Array MapEntry) (clock : Nat) (k : Int) (hr : w.heap[r]? = some (.map es clock)) (hk : ∀ e ∈ es.toList, ∃ b, e.key = .int .i64 b ∧ b ≠ k) :
    (Instr.lookup 88 (.map (some r)) (.int .i64 k) true).run Try.prog w = .ok (.tuple #[.pointer none, .bool false]) w := by
  have hd : MapKept.IsKey (.int .i64) (.int .i64 k) := rfl
  have hz : (zeroValue 91).run Try.prog w = .ok (.pointer none) w := by kernel_rfl
  rcases MapKept.findNow_spec hd es.toList 0 (fun x hx => by obtain ⟨b, hb, _⟩ := hk x hx; rw [hb]; rfl) with ⟨h1, _⟩ | ⟨j, e, h1, h2, h3⟩
  · simp [Instr.lookup, run_underlying Try.underlying88, MapKept.run_getObj_map hr, MapKept.run_checkKey Try.underlying3 hd, MapKept.run_findKey Try.underlying3 h1, hz, Result.andThen]
  · obtain ⟨b, hb, hne⟩ := hk e (List.mem_of_getElem? h2)
    exact absurd (int_inj (hb.symm.trans h3)) hne

/-- .. the entry that is there -/
theorem run_look_some (w : World) (r : Nat) (es : Array MapEntry) (clock : Nat) (k : Int) (hr : w.heap[r]? = some (.map es clock)) (hk : ∀ e ∈ es.toList, ∃ b, e.key = .int .i64 b) (hin : ∃ e ∈ es.toList, e.key = .int .i64 k) :
    ∃ e ∈ es.toList, e.key = .int .i64 k ∧ (Instr.lookup 88 (.map (some r)) (.int .i64 k) true).run Try.prog w = .ok (.tuple #[e.val, .bool true]) w := by
  have hd : MapKept.IsKey (.int .i64) (.int .i64 k) := rfl
  rcases MapKept.findNow_spec hd es.toList 0 (fun x hx => by obtain ⟨b, hb⟩ := hk x hx; rw [hb]; rfl) with ⟨h1, h2⟩ | ⟨j, e, h1, h2, h3⟩
  · obtain ⟨e, he, hek⟩ := hin
    exact absurd hek (h2 e he)
  · refine ⟨e, List.mem_of_getElem? h2, h3, ?_⟩
    simp [Instr.lookup, run_underlying Try.underlying88, MapKept.run_getObj_map hr, MapKept.run_checkKey Try.underlying3 hd, MapKept.run_findKey Try.underlying3 h1, Result.andThen]

/-- a tenant of the program's: its block, an empty map of mappings; all of it in blocks of S -/
def TenBlk (w : World) (S : Nat → Prop) (g : Nat) : Prop :=
  S g ∧ ∃ low high h c, S h ∧ w.heap[g]? = some (.cells #[.int .i64 low, .int .i64 high, .map (some h)] 106 (0, 0)) ∧ w.heap[h]? = some (.map #[] c) ∧ 0 ≤ low ∧ high ≤ 65535

theorem TenBlk.keep {w w' : World} {S S' : Nat → Prop} {g : Nat} (h : TenBlk w S g) (hS : ∀ k, S k → k < w.heap.size → S' k) (hk : ∀ k, S k → k < w.heap.size → w'.heap[k]? = w.heap[k]?) : TenBlk w' S' g := by
  obtain ⟨h1, low, high, hh, c, h2, h3, h4, h5⟩ := h
  have l1 := (Array.getElem?_eq_some_iff.1 h3).1
  have l2 := (Array.getElem?_eq_some_iff.1 h4).1
  exact ⟨hS _ h1 l1, low, high, hh, c, hS _ h2 l2, (hk _ h1 l1).trans h3, (hk _ h2 l2).trans h4, h5⟩

/-- the entries of the program's map of tenants -/
def EntOK (w : World) (S : Nat → Prop) (es : Array MapEntry) (ts : List Ten) : Prop :=
  es.toList.map (·.key) = ts.map (fun t => Value.int .i64 t.tag) ∧ ∀ e ∈ es.toList, ∃ g, e.val = .pointer (some ⟨g, 0, none⟩) ∧ TenBlk w S g

theorem EntOK.keep {w w' : World} {S S' : Nat → Prop} {es : Array MapEntry} {ts : List Ten} (h : EntOK w S es ts) (hS : ∀ k, S k → k < w.heap.size → S' k) (hk : ∀ k, S k → k < w.heap.size → w'.heap[k]? = w.heap[k]?) : EntOK w' S' es ts :=
  ⟨h.1, fun e he => by obtain ⟨g, h1, h2⟩ := h.2 e he; exact ⟨g, h1, h2.keep hS hk⟩⟩

theorem EntOK.keys {w : World} {S : Nat → Prop} {es : Array MapEntry} {ts : List Ten} (h : EntOK w S es ts) : ∀ e ∈ es.toList, ∃ t ∈ ts, e.key = .int .i64 t.tag := by
  intro e he
  have : e.key ∈ es.toList.map (·.key) := List.mem_map.2 ⟨e, he, rfl⟩
  rw [h.1] at this
  obtain ⟨t, ht, e'⟩ := List.mem_map.1 this
  exact ⟨t, ht, e'.symm⟩

theorem EntOK.snoc {w : World} {S : Nat → Prop} {es : Array MapEntry} {ts : List Ten} (h : EntOK w S es ts) (t : Ten) (g c : Nat) (hg : TenBlk w S g) :
    EntOK w S (es.push { key := .int .i64 t.tag, val := .pointer (some ⟨g, 0, none⟩), born := c }) (ts ++ [t]) := by
  refine ⟨by simp [h.1], fun e he => ?_⟩
  simp at he
  rcases he with he | rfl
  · exact h.2 e (by simpa using he)
  · exact ⟨g, rfl, hg⟩

/-- the program's box -/
def ProgBox (w : World) (S : Nat → Prop) (p : Nat) (ts : List Ten) : Prop :=
  S p ∧ ∃ r es clock, S r ∧ w.heap[p]? = some (.cells #[.map (some r)] 90 (0, 0)) ∧ w.heap[r]? = some (.map es clock) ∧ EntOK w S es ts

theorem ProgBox.keep {w w' : World} {S S' : Nat → Prop} {p : Nat} {ts : List Ten} (h : ProgBox w S p ts) (hS : ∀ k, S k → k < w.heap.size → S' k) (hk : ∀ k, S k → k < w.heap.size → w'.heap[k]? = w.heap[k]?) : ProgBox w' S' p ts := by
  obtain ⟨h1, r, es, c, h2, h3, h4, h5⟩ := h
  have l1 := (Array.getElem?_eq_some_iff.1 h3).1
  have l2 := (Array.getElem?_eq_some_iff.1 h4).1
  exact ⟨hS _ h1 l1, r, es, c, hS _ h2 l2, (hk _ h1 l1).trans h3, (hk _ h2 l2).trans h4, h5.keep hS hk⟩

end Go.Proofs.Ytgiafiifoegokaa
