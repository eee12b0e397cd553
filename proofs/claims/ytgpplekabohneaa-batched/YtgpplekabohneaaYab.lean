/- Operations that correspond: the rest of those that a tenant's pass uses. · Operations that correspond, as a whole: 'execOp' of the makes of operation that a tenant's pass uses. · One step of a goroutine that keeps to plain code, told as a program over memory ('act'); frames that correspond take steps that correspond. -/
import Derived.Test.YtgpplekabohneaaYaa
import Derived.Laws.Sem
import Derived.Conc.Own4
namespace Go.Proofs.Ytgpplekabohneaa.Co
open Go

section
variable {P : Program} {G : Nat} {r : Ren}

/-- The field has cells. -/
def FieldOk (P : Program) (s : TypeId) (n : Nat) : Prop := ∀ fs f i, P.underlying s = some (.struct fs) → fs[n]? = some f → P.info? f.type = some i → i.size ≠ 0

theorem te_sizeOf' (hB : Bi G r) (t : TypeId) : TR P G (fun r' a b => r' = r ∧ a = b ∧ ∃ i, P.info? t = some i ∧ i.size = a) r (sizeOf t) (sizeOf t) := by
  refine TR.bindS (Q := fun a b => a = b ∧ P.info? t = some a) hB (te_typeInfo' t) ?_
  rintro i _ ⟨rfl, hi⟩
  exact .pure ⟨rfl, rfl, i, hi, rfl⟩

theorem tv_fieldAt (hB : Bi G r) {s : TypeId} {n : Nat} (hf : FieldOk P s n) {x X : Value} (hx : VR r x X) : TV P G r (Instr.fieldAt s x n) (Instr.fieldAt s X n) := by
  unfold Instr.fieldAt
  refine TR.bindS (Q := fun a b => a = b ∧ P.underlying s = some a) hB (te_underlying' s) ?_
  rintro d _ ⟨rfl, hd⟩
  cases d with
  | struct fs =>
    dsimp only
    cases h : fs[n]? with
    | none => exact te_stuck _ _
    | some f =>
      dsimp only
      refine TR.bindS hB (tr_sureAddr hx) fun a A ha => ?_
      refine TR.bindS (Q := fun a A => DR r a A) hB ?_ fun a A ha => .pure ⟨rfl, .ofDR ha⟩
      unfold fieldPlace
      refine TR.bindS (Q := fun a b => a = b ∧ ∃ i, P.info? f.type = some i ∧ i.size = a) hB (te_sizeOf' hB f.type) ?_
      rintro k _ ⟨rfl, i, hi, rfl⟩
      have := hf fs f i hd h hi
      rw [if_neg this, if_neg this]
      exact .pure ⟨rfl, ha.add _⟩
  | _ => exact te_stuck _ _

theorem tr_if {α β : Type} {Q : Ren → α → β → Prop} {c : Bool} {a b : Sem α} {A B : Sem β} (h : c = true → TR P G Q r a A) (h' : c = false → TR P G Q r b B) : TR P G Q r (if c = true then a else b) (if c = true then A else B) := by
  cases c
  · exact h' rfl
  · exact h rfl

theorem tv_indexAt (hB : Bi G r) (t : TypeId) {x X i I : Value} (hx : VR r x X) (hi : VR r i I) : TV P G r (Instr.indexAt t x i) (Instr.indexAt t X I) := by
  unfold Instr.indexAt
  refine TR.bindS hB (te_asIntOf hi) ?_
  rintro ⟨k, n⟩ _ rfl
  refine TR.bindS (Q := fun a b => a = b) hB (te_underlying t) ?_
  rintro d _ rfl
  dsimp only
  cases d with
  | array len elem =>
    dsimp only
    refine TR.bindS hB (tr_sureAddr hx) fun a A ha => ?_
    refine TR.bindS (Q := fun (u U : Option Addr × Nat × TypeId) => u = (some a, len, elem) ∧ U = (some A, len, elem)) hB (.pure ⟨rfl, rfl, rfl⟩) ?_
    rintro _ _ ⟨rfl, rfl⟩
    refine TR.bindS (Q := fun a b => a = b) hB (te_underlying t) ?_
    rintro d _ rfl
    dsimp only
    split
    · refine TR.bindS hB (te_sizeOf hB elem) ?_
      rintro k _ rfl
      exact .pure ⟨rfl, .ofDR (ha.add _)⟩
    · exact tr_if (fun _ => te_unsup (by simp) _) fun _ => te_bounds _ _ _ _
  | slice elem =>
    cases hx using VR.cs with
    | nilSlice l c =>
      dsimp only
      refine TR.bindS (Q := fun (u U : Option Addr × Nat × TypeId) => u = (none, l, elem) ∧ U = (none, l, elem)) hB (.pure ⟨rfl, rfl, rfl⟩) ?_
      rintro _ _ ⟨rfl, rfl⟩
      refine TR.bindS (Q := fun a b => a = b) hB (te_underlying t) ?_
      rintro d _ rfl
      exact te_bounds _ _ _ _
    | @slice b B o s l c hb =>
      dsimp only
      refine TR.bindS (Q := fun (u U : Option Addr × Nat × TypeId) => u = (some ⟨b, o, s⟩, l, elem) ∧ U = (some ⟨B, o, s⟩, l, elem)) hB (.pure ⟨rfl, rfl, rfl⟩) ?_
      rintro _ _ ⟨rfl, rfl⟩
      refine TR.bindS (Q := fun a b => a = b) hB (te_underlying t) ?_
      rintro d _ rfl
      dsimp only
      split
      · refine TR.bindS hB (te_sizeOf hB elem) ?_
        rintro k _ rfl
        exact .pure ⟨rfl, .ofDR (DR.add (.mk o s hb) _)⟩
      · exact tr_if (fun _ => te_unsup (by simp) _) fun _ => te_bounds _ _ _ _
    | _ => exact te_stuck _ _
  | _ => exact te_stuck _ _

theorem tv_extract {x X : Value} (hx : VR r x X) (n : Nat) : TV P G r (Instr.extract x n) (Instr.extract X n) := by
  cases hx using VR.cs with
  | @tuple cs ds h1 h2 =>
    unfold Instr.extract
    dsimp only
    by_cases e : n < cs.size
    · rw [Array.getElem?_eq_getElem e, Array.getElem?_eq_getElem (h1 ▸ e)]
      exact .pure ⟨rfl, h2 _ _ _⟩
    · rw [Array.getElem?_eq_none (by omega)]
      exact te_stuck _ _
  | _ => exact te_stuck _ _

theorem tv_not {x X : Value} (hx : VR r x X) : TV P G r (Op.unary .not x) (Op.unary .not X) := by
  cases hx using VR.cs with
  | bool b => exact .pure ⟨rfl, .bool _⟩
  | _ => exact te_stuck _ _

theorem tv_sliceBound (hB : Bi G r) {x X : Value} (hx : VR r x X) (n : Nat) (c : BoundsCode) : TE P G r (Instr.sliceBound x n c) (Instr.sliceBound X n c) := by
  unfold Instr.sliceBound
  refine TR.bindS hB (te_asIntOf hx) ?_
  rintro ⟨k, i⟩ _ rfl
  dsimp only
  split
  · exact te_pure _
  · exact te_bounds _ _ _ _

/-- Values that may lack. -/
def MR (r : Ren) : Option Value → Option Value → Prop
  | none, none => True
  | some v, some V => VR r v V
  | _, _ => False

theorem MR.cases {a A : Option Value} (h : MR r a A) : (a = none ∧ A = none) ∨ ∃ v V, a = some v ∧ A = some V ∧ VR r v V := by
  match a, A, h with
  | none, none, _ => exact .inl ⟨rfl, rfl⟩
  | some v, some V, h => exact .inr ⟨v, V, rfl, rfl, h⟩

theorem te_sliceBounds (hB : Bi G r) (sl : Bool) (len cap : Nat) {a A b B c C : Option Value} (ha : MR r a A) (hb : MR r b B) (hc : MR r c C) : TE P G r (Instr.sliceBounds sl len cap a b c) (Instr.sliceBounds sl len cap A B C) := by
  unfold Instr.sliceBounds
  rcases ha.cases with ⟨rfl, rfl⟩ | ⟨v, V, rfl, rfl, hv⟩ <;> rcases hb.cases with ⟨rfl, rfl⟩ | ⟨v', V', rfl, rfl, hv'⟩ <;> rcases hc.cases with ⟨rfl, rfl⟩ | ⟨v'', V'', rfl, rfl, hv''⟩ <;> dsimp only <;>
    repeat (first | exact te_pure _ | exact TR.halt trivial | (refine TR.bindS hB (tv_sliceBound hB (by assumption) _ _) ?_; rintro _ _ rfl; try dsimp only) | (refine TR.bindS hB (te_pure _) ?_; rintro _ _ rfl; try dsimp only))

theorem VR.sliceAt {a A : Option Addr} (h : (a = none ∧ A = none) ∨ ∃ x X, a = some x ∧ A = some X ∧ DR r x X) (l c : Nat) : VR r (.slice a l c) (.slice A l c) := by
  rcases h with ⟨rfl, rfl⟩ | ⟨x, X, rfl, rfl, h⟩
  · exact .nilSlice l c
  · cases h using DR.cs with
    | mk o s hb => exact .slice o s l c hb

theorem tv_sliceAt (hB : Bi G r) (t : TypeId) {x X : Value} (hx : VR r x X) {a A b B c C : Option Value} (ha : MR r a A) (hb : MR r b B) (hc : MR r c C) (ht : ∃ e, P.underlying t = some (.slice e)) : TV P G r (Instr.sliceAt t x a b c) (Instr.sliceAt t X A B C) := by
  unfold Instr.sliceAt
  refine TR.bindS (Q := fun a b => a = b ∧ P.underlying t = some a) hB (te_underlying' t) ?_
  rintro d _ ⟨rfl, hd⟩
  obtain ⟨e, he⟩ := ht
  obtain rfl : d = .slice e := by rw [he] at hd; exact (Option.some.inj hd).symm
  dsimp only
  unfold Instr.slice
  refine TR.bindS (Q := fun a b => a = b ∧ P.underlying t = some a) hB (te_underlying' t) ?_
  rintro d _ ⟨rfl, hd⟩
  obtain rfl : d = .slice e := by rw [he] at hd; exact (Option.some.inj hd).symm
  cases hx using VR.cs with
  | nilSlice l c =>
    dsimp only
    refine TR.bindS hB (te_sliceBounds hB _ _ _ ha hb hc) ?_
    rintro ⟨l, h, m⟩ _ rfl
    refine TR.bindS hB (te_sizeOf hB e) ?_
    rintro k _ rfl
    refine .pure ⟨rfl, .sliceAt (.inl ?_) _ _⟩
    dsimp only
    split <;> exact ⟨rfl, rfl⟩
  | slice o s l c hbB =>
    dsimp only
    refine TR.bindS hB (te_sliceBounds hB _ _ _ ha hb hc) ?_
    rintro ⟨l, h, m⟩ _ rfl
    refine TR.bindS hB (te_sizeOf hB e) ?_
    rintro k _ rfl
    refine .pure ⟨rfl, .sliceAt (.inr ?_) _ _⟩
    dsimp only
    split
    · exact ⟨_, _, rfl, rfl, .mk o s hbB⟩
    · exact ⟨_, _, rfl, rfl, DR.add (.mk o s hbB) _⟩
  | _ => exact te_stuck _ _

theorem te_len (hB : Bi G r) (ts : Array TypeId) (t : TypeId) {x X : Value} (hx : VR r x X) : TV P G r (Builtin.len_ ts t #[x]) (Builtin.len_ ts t #[X]) := by
  unfold Builtin.len_
  cases ts[0]? with
  | none => exact te_stuck _ _
  | some t0 =>
    refine TR.bindS (Q := fun a b => a = b) hB (te_underlying t0) ?_
    rintro d _ rfl
    cases d with
    | array n e => exact .pure ⟨rfl, .int _ _⟩
    | pointer e =>
      refine TR.bindS (Q := fun a b => a = b) hB (te_underlying e) ?_
      rintro d _ rfl
      cases d with
      | array n e => exact .pure ⟨rfl, .int _ _⟩
      | _ => exact te_stuck _ _
    | string => cases hx using VR.cs <;> first | exact .pure ⟨rfl, .int _ _⟩ | exact te_stuck _ _
    | slice e => cases hx using VR.cs <;> first | exact .pure ⟨rfl, .int _ _⟩ | exact te_stuck _ _
    | map k e =>
      cases hx using VR.cs with
      | nilMap => exact .pure ⟨rfl, .int _ _⟩
      | map hb =>
        refine TR.bindS hB (tr_getObj hb) fun o O ho => ?_
        cases ho using OR.cs with
        | map n h1 h2 => dsimp only; rw [h1]; exact .pure ⟨rfl, .int _ _⟩
        | _ => exact te_stuck _ _
      | _ => exact te_stuck _ _
    | chan d e => cases hx using VR.cs <;> exact te_stuck _ _
    | _ => exact te_stuck _ _

/-! ### values that are put together -/
structure PR.Cl (r : Ren) (M : List (Nat × Value) → List (Nat × Value) → Prop) : Prop where
  all ::
  nil : M [] []
  cons : ∀ {n : Nat} {v V : Value} {l L : List (Nat × Value)}, VR r v V → M l L → M ((n, v) :: l) ((n, V) :: L)
/-- Parts that correspond. -/
def PR (r : Ren) (x : List (Nat × Value)) (y : List (Nat × Value)) : Prop := ∀ M : List (Nat × Value) → List (Nat × Value) → Prop, PR.Cl r M → M x y
theorem PR.nil {r : Ren} : PR r [] [] := fun _ cl => cl.nil 
theorem PR.cons {r : Ren} {n : Nat} {v V : Value} {l L : List (Nat × Value)} (h1 : VR r v V) (h2 : PR r l L) : PR r ((n, v) :: l) ((n, V) :: L) := fun M cl => cl.cons h1 (h2 M cl)
theorem PR.ind {r : Ren} {motive : (x : List (Nat × Value)) → (y : List (Nat × Value)) → PR r x y → Prop} (nil : motive [] [] PR.nil)
    (cons : ∀ {n : Nat} {v V : Value} {l L : List (Nat × Value)} (h1 : VR r v V) (h2 : PR r l L), motive l L h2 → motive ((n, v) :: l) ((n, V) :: L) (PR.cons h1 h2)) {x : List (Nat × Value)} {y : List (Nat × Value)} (t : PR r x y) : motive x y t :=
  (t (fun x y => PR r x y ∧ ∀ h : PR r x y, motive x y h) ⟨⟨PR.nil , fun _ => nil ⟩,
    fun h1 h2 => ⟨PR.cons h1 h2.1, fun _ => cons h1 h2.1 (h2.2 _)⟩⟩).2 t
theorem AR.foldSet {c C : Array Value} (h : AR r c C) (off : Nat) {l L : List Value} (hl : LR r l L) : ∀ k, AR r ((l.zipIdx k).foldl (fun cs (x : Value × Nat) => cs.setIfInBounds (off + x.2) x.1) c) ((L.zipIdx k).foldl (fun cs (x : Value × Nat) => cs.setIfInBounds (off + x.2) x.1) C) := by
  induction hl using LR.ind generalizing c C with
  | nil => intro k; exact h
  | cons hv _ ih => intro k; simp only [List.zipIdx_cons, List.foldl_cons]; exact ih (h.set _ hv) (k + 1)

theorem fill_rel (place : Nat → Option (Nat × Nat)) {l L : List (Nat × Value)} (hl : PR r l L) : ∀ {c C : Array Value}, AR r c C →
    (∀ x, Instr.fill place c l = some x → ∃ X, Instr.fill place C L = some X ∧ AR r x X) ∧ (Instr.fill place c l = none → Instr.fill place C L = none) := by
  induction hl using PR.ind with
  | nil =>
    intro c C h
    refine ⟨fun x hx => ?_, fun hx => by cases hx⟩
    simp only [Instr.fill, Option.some.injEq] at hx
    subst hx
    exact ⟨C, rfl, h⟩
  | @cons n v V l L hv _ ih =>
    intro c C h
    unfold Instr.fill
    cases place n with
    | none => exact ⟨fun x hx => (by cases hx), fun _ => rfl⟩
    | some p =>
      obtain ⟨off, size⟩ := p
      have hc := hv.cells
      dsimp only
      rw [← hc.1, ← h.1]
      split
      · exact ⟨fun x hx => (by cases hx), fun _ => rfl⟩
      · refine ih ?_
        have := h.foldSet off hc.list 0
        rw [← Array.foldl_toList, ← Array.foldl_toList]
        simpa using this

theorem te_mapM (hB : Bi G r) {α β : Type} {f : α → Sem β} (as : Array α) (h : ∀ a, TE P G r (f a) (f a)) : TE P G r (as.mapM f) (as.mapM f) := by
  have key : ∀ (l : List α), TE P G r (l.mapM f) (l.mapM f) := by
    intro l
    induction l with
    | nil => exact te_pure _
    | cons a l ih =>
      rw [List.mapM_cons]
      refine TR.bindS hB (h a) ?_
      rintro b _ rfl
      refine TR.bindS hB ih ?_
      rintro bs _ rfl
      exact te_pure _
  rw [Array.mapM_eq_mapM_toList, map_eq_pure_bind]
  refine TR.bindS hB (key _) ?_
  rintro bs _ rfl
  exact te_pure _

theorem LR.arr {l L : List Value} (h : LR r l L) : AR r l.toArray L.toArray := by
  have : l.length = L.length ∧ ∀ (i : Nat) (h : i < l.length) (h' : i < L.length), VR r l[i] L[i] := by
    induction h using LR.ind with
    | nil => exact ⟨rfl, fun i h => by simp at h⟩
    | cons hv _ ih =>
      refine ⟨by simp [ih.1], fun i h1 h2 => ?_⟩
      cases i with
      | zero => exact hv
      | succ i => exact ih.2 i (by simpa using h1) (by simpa using h2)
  exact ⟨by simpa using this.1, fun i h1 h2 => by simpa using this.2 i (by simpa using h1) (by simpa using h2)⟩

theorem tr_mapM (hB : Bi G r) {α : Type} {f F : α → Sem Value} (as : Array α) (h : ∀ a ∈ as, TV P G r (f a) (F a)) : TR P G (fun r' x X => r' = r ∧ AR r x X) r (as.mapM f) (as.mapM F) := by
  have key : ∀ (l : List α), (∀ a ∈ l, TV P G r (f a) (F a)) → TR P G (fun r' x X => r' = r ∧ LR r x X) r (l.mapM f) (l.mapM F) := by
    intro l
    induction l with
    | nil => intro _; exact .pure ⟨rfl, .nil⟩
    | cons a l ih =>
      intro h
      rw [List.mapM_cons, List.mapM_cons]
      refine TR.bindS hB (h a (by simp)) fun b B hb => ?_
      refine TR.bindS hB (ih fun x hx => h x (by simp [hx])) fun bs BS hbs => ?_
      exact .pure ⟨rfl, .cons hb hbs⟩
  rw [Array.mapM_eq_mapM_toList, Array.mapM_eq_mapM_toList, map_eq_pure_bind, map_eq_pure_bind]
  refine TR.bindS hB (key _ fun a ha => h a (by simpa using ha)) fun bs BS hbs => ?_
  exact .pure ⟨rfl, hbs.arr⟩

theorem tv_fill (place : Nat → Option (Nat × Nat)) {l L : List (Nat × Value)} (hl : PR r l L) {c C : Array Value} (h : AR r c C) (why : String) {f : Array Value → Sem Value} {Q : Ren → Value → Value → Prop} (hf : ∀ x X, AR r x X → TR P G Q r (f x) (f X)) :
    TR P G Q r (match Instr.fill place c l with | some cells => f cells | _ => stuck why) (match Instr.fill place C L with | some cells => f cells | _ => stuck why) := by
  have := fill_rel place hl h
  cases hx : Instr.fill place c l with
  | none => exact te_stuck _ _
  | some x =>
    obtain ⟨X, hX, hr⟩ := this.1 x hx
    rw [hX]
    exact hf x X hr

theorem tv_build (hB : Bi G r) {t : TypeId} (hz : ZeroFlat P t) {l L : List (Nat × Value)} (hl : PR r l L) : TV P G r (Instr.build t l.toArray) (Instr.build t L.toArray) := by
  unfold Instr.build
  refine TR.bindS (Q := fun a b => a = b ∧ VR r a b) hB (tv_zeroValue hB hz) ?_
  rintro z _ ⟨rfl, hz⟩
  refine TR.bindS (Q := fun a b => a = b) hB (te_underlying t) ?_
  rintro d _ rfl
  cases d with
  | struct fs =>
    dsimp only
    refine TR.bindS hB (te_mapM hB fs fun f => ?_) ?_
    · refine TR.bindS hB (te_sizeOf hB f.type) ?_
      rintro n _ rfl
      exact te_pure _
    · rintro places _ rfl
      exact tv_fill (fun x => places[x]?) hl hz.cells _ (f := fun cells => pure (.agg cells)) fun x X hx => .pure ⟨rfl, .ofAR hx⟩
  | array n e =>
    dsimp only
    refine TR.bindS hB (te_sizeOf hB e) ?_
    rintro k _ rfl
    exact tv_fill _ hl hz.cells _ (f := fun cells => pure (.agg cells)) fun x X hx => .pure ⟨rfl, .ofAR hx⟩
  | _ => exact te_stuck _ _

theorem AR.repeat {z Z : Array Value} (h : AR r z Z) (n : Nat) : AR r ((Array.range n).map (z[· % z.size]!)) ((Array.range n).map (Z[· % Z.size]!)) := by
  refine ⟨by simp, fun i h1 h2 => ?_⟩
  simp only [Array.getElem_map, Array.getElem_range]
  by_cases hz : z.size = 0
  · have hZ : Z.size = 0 := h.1 ▸ hz
    have e1 : z = #[] := Array.eq_empty_of_size_eq_zero hz
    have e2 : Z = #[] := Array.eq_empty_of_size_eq_zero hZ
    subst e1; subst e2
    exact .bool _
  · have l1 : i % z.size < z.size := Nat.mod_lt _ (by omega)
    have l2 : i % z.size < Z.size := h.1 ▸ l1
    rw [← h.1, getElem!_pos z _ l1, getElem!_pos Z _ l2]
    exact h.2 _ _ _

theorem tn_buildSlice (hB : Bi G r) {t : TypeId} (hz : ∀ e, P.underlying t = some (.slice e) → ZeroFlat P e) (len : Nat) {l L : List (Nat × Value)} (hl : PR r l L) : TN P G r (Instr.buildSlice t len l.toArray) (Instr.buildSlice t len L.toArray) := by
  unfold Instr.buildSlice
  refine TR.bindS (Q := fun a b => a = b ∧ P.underlying t = some a) hB (te_underlying' t) ?_
  rintro d _ ⟨rfl, hd⟩
  cases d with
  | slice e =>
    dsimp only
    refine TR.bindS hB (te_sizeOf hB e) ?_
    rintro k _ rfl
    have fin : ∀ (why : String) (z : Array Value), AR r z z → TN P G r
        (match Instr.fill (fun i => some (i * k, k)) ((Array.range (len * k)).map (z[· % z.size]!)) l with
          | some cells => (do let a ← newRow e cells; pure (Value.slice (some a) len len) : Sem Value)
          | _ => stuck why)
        (match Instr.fill (fun i => some (i * k, k)) ((Array.range (len * k)).map (z[· % z.size]!)) L with
          | some cells => (do let a ← newRow e cells; pure (Value.slice (some a) len len) : Sem Value)
          | _ => stuck why) := fun why z hz =>
      tv_fill _ hl (hz.repeat _) _ (f := fun cells => do let a ← newRow e cells; pure (Value.slice (some a) len len)) fun x X hx =>
        TR.bind hB (tr_newRow e hx) fun _ _ _ _ _ ha => .pure (.sliceAt (.inr ⟨_, _, rfl, rfl, ha⟩) _ _)
    split
    · exact TR.halt trivial
    · split
      · exact fin _ #[] AR.empty
      · refine TR.bindS (Q := fun a b => a = b ∧ VR r a b) hB (tv_zeroValue hB (hz _ hd)) ?_
        rintro z _ ⟨rfl, hz⟩
        exact fin _ z.cells hz.cells
  | _ => exact te_stuck _ _

theorem AR.append {a A b B : Array Value} (h : AR r a A) (h' : AR r b B) : AR r (a ++ b) (A ++ B) := by
  refine ⟨by simp [h.1, h'.1], fun i h1 h2 => ?_⟩
  by_cases e : i < a.size
  · rw [Array.getElem_append_left e, Array.getElem_append_left (h.1 ▸ e)]; exact h.2 i e _
  · have e1 : a.size ≤ i := by omega
    have e2 : A.size ≤ i := by rw [← h.1]; omega
    rw [Array.getElem_append_right e1, Array.getElem_append_right e2]
    have hs : i - A.size = i - a.size := by rw [h.1]
    have l1 : i - a.size < b.size := by simp at h1; omega
    have := h'.2 (i - a.size) l1 (h'.1 ▸ l1)
    simpa only [hs] using this

theorem AR.zeroCells {z : Array Value} (h : AR r z z) (n : Nat) : AR r (Builtin.zeroCells z n) (Builtin.zeroCells z n) := h.repeat _

theorem te_clear (hB : Bi G r) (ts : Array TypeId) (t : TypeId) {x X : Value} (hx : VR r x X) (hz : ∀ t0 e, ts[0]? = some t0 → P.underlying t0 = some (.slice e) → ZeroFlat P e) : TV P G r (Builtin.clear_ ts t #[x]) (Builtin.clear_ ts t #[X]) := by
  have nul : VR r (.tuple #[]) (.tuple #[]) := .tuple rfl fun i h => by simp at h
  unfold Builtin.clear_
  cases h0 : ts[0]? with
  | none => exact te_stuck _ _
  | some t0 =>
    refine TR.bindS (Q := fun a b => a = b ∧ P.underlying t0 = some a) hB (te_underlying' t0) ?_
    rintro d _ ⟨rfl, hd⟩
    cases hx using VR.cs with
    | nilMap => exact .pure ⟨rfl, nul⟩
    | nilSlice l c => exact .pure ⟨rfl, nul⟩
    | map hb =>
      dsimp only
      refine TR.bindS hB (tr_getObj hb) fun o O ho => ?_
      cases ho using OR.cs with
      | map n h1 h2 =>
        refine TR.bindS hB (te_setObj hb (.map n rfl fun i h => by simp at h)) fun _ _ _ => ?_
        exact .pure ⟨rfl, nul⟩
      | _ => exact TR.halt trivial
    | slice o s l c hb =>
      cases l with
      | zero => exact .pure ⟨rfl, nul⟩
      | succ l =>
        cases d with
        | slice e =>
          dsimp only
          refine TR.bindS (Q := fun a b => a = b ∧ VR r a b) hB (tv_zeroValue hB (hz _ _ h0 hd)) ?_
          rintro z _ ⟨rfl, hzz⟩
          refine TR.bindS hB (te_storeCells (.mk o s hb) (hzz.cells.zeroCells _).list 0) fun _ _ _ => ?_
          exact .pure ⟨rfl, nul⟩
        | _ => exact TR.halt trivial
    | _ => exact TR.halt trivial

theorem tr_firstCells (hB : Bi G r) (size n : Nat) {x X : Value} (hx : VR r x X) : TR P G (fun r' a b => r' = r ∧ AR r a b) r (Builtin.firstCells size n x) (Builtin.firstCells size n X) := by
  cases hx using VR.cs with
  | nilSlice l c => exact .pure ⟨rfl, AR.empty⟩
  | slice o s l c hb => exact TR.mono (tr_loadCells hB (.mk o s hb) _) fun _ _ _ _ h => ⟨h.1, h.2.1⟩
  | _ => exact te_stuck _ _

theorem te_lenOf {x X : Value} (hx : VR r x X) : TE P G r (Builtin.lenOf x) (Builtin.lenOf X) := by
  cases hx using VR.cs <;> first | exact te_pure _ | exact te_stuck _ _

theorem te_holdsCells (hB : Bi G r) {a A : Addr} (h : DR r a A) (n : Nat) : TE P G r (Builtin.holdsCells a n) (Builtin.holdsCells A n) := by
  cases h using DR.cs with
  | mk o s hb =>
    refine TR.bindS hB (te_shape hb) ?_
    rintro x _ rfl
    cases x <;> exact te_pure _

theorem te_mayShare (hB : Bi G r) (size sLen n : Nat) {a A : Option Addr} (h : (a = none ∧ A = none) ∨ ∃ x X, a = some x ∧ A = some X ∧ DR r x X) {y Y : Value} (hy : VR r y Y) : TE P G r (Builtin.mayShare size sLen n a y) (Builtin.mayShare size sLen n A Y) := by
  unfold Builtin.mayShare
  rcases h with ⟨rfl, rfl⟩ | ⟨x, X, rfl, rfl, hx⟩
  · dsimp only
    refine TR.bindS (Q := fun a b => a = b) hB (te_pure _) ?_
    rintro b _ rfl
    refine tr_if (fun _ => te_pure _) fun _ => ?_
    cases hy using VR.cs with
    | slice o s l c hb =>
      refine TR.bindS hB (te_holdsCells hB (.mk o s hb) _) ?_
      rintro v _ rfl
      exact te_pure _
    | _ => exact te_pure _
  · dsimp only
    refine TR.bindS hB (te_holdsCells hB hx _) ?_
    rintro u _ rfl
    refine TR.bindS hB (te_frozen (hx.add _)) ?_
    rintro v _ rfl
    refine TR.bindS (Q := fun a b => a = b) hB (te_pure _) ?_
    rintro b _ rfl
    refine tr_if (fun _ => te_pure _) fun _ => ?_
    cases hy using VR.cs with
    | slice o s l c hb =>
      refine TR.bindS hB (te_holdsCells hB (.mk o s hb) _) ?_
      rintro v _ rfl
      have := DR.sameBlock hB hx (.mk o s hb)
      simp only [Option.any_some]
      rw [← this]
      exact te_pure _
    | _ => exact te_pure _

theorem te_choose (q : Question) : TE P G r (choose q) (choose q) := .choose q fun _ => te_pure _

theorem te_askRoom (n : Nat) : TE P G r (askRoom n) (askRoom n) := by
  unfold askRoom
  split
  · exact .noRoom (te_pure ())
  · exact te_pure ()

theorem te_errPanic {α β : Type} {Q : Ren → α → β → Prop} (m : String) : TR P G Q r (runtimePanic (.error m)) (runtimePanic (.error m)) := te_rtPanic (by simp) (by simp)

theorem tn_append (hB : Bi G r) (ts : Array TypeId) (t : TypeId) {x X y Y : Value} (hx : VR r x X) (hy : VR r y Y) (hz : ∀ t0 e, ts[0]? = some t0 → P.underlying t0 = some (.slice e) → ZeroFlat P e)
    (hn : ∀ t1, ts[1]? = some t1 → ∀ k, P.underlying t1 ≠ some (.int k)) : TN P G r (Builtin.append_ ts t #[x, y]) (Builtin.append_ ts t #[X, Y]) := by
  unfold Builtin.append_
  cases h0 : ts[0]? with
  | none => exact te_stuck _ _
  | some t0 =>
    refine TR.bindS (Q := fun a b => a = b ∧ P.underlying t0 = some a) hB (te_underlying' t0) ?_
    rintro d _ ⟨rfl, hd⟩
    cases d with
    | slice e =>
      dsimp only
      have hz' := hz _ _ h0 hd
      have hx0 := hx
      cases hx using VR.cs with
      | nilSlice l c =>
        refine TR.bindS hB (te_sizeOf hB e) ?_
        rintro size _ rfl
        cases h1 : ts[1]? with
        | none =>
          refine TR.bindS (Q := fun a b => a = false ∧ b = false) hB (.pure ⟨rfl, rfl, rfl⟩) ?_
          rintro _ _ ⟨rfl, rfl⟩
          simp only [Bool.false_eq_true, if_false, Bool.not_false, if_true, false_or]
          refine TR.bindS hB (te_lenOf hy) ?_
          rintro n _ rfl
          split
          · refine TR.bindS hB (tr_firstCells hB _ _ hy) fun new NEW hnew => ?_
            exact .pure (.nilSlice _ _)
          · refine TR.bindS hB (te_typeInfo e) ?_
            rintro i _ rfl
            split
            · exact TR.bindS (Q := fun _ _ => False) hB (te_errPanic _) fun _ _ h => h.elim
            · refine TR.bindS hB (te_typeInfo e) ?_
              rintro i _ rfl
              split
              · refine TR.bindS (Q := fun _ _ => False) hB ?_ fun _ _ h => h.elim
                refine TR.bindS hB (te_mayShare hB _ _ _ (.inl ⟨rfl, rfl⟩) hy) ?_
                rintro b _ rfl
                refine tr_if (fun _ => ?_) fun _ => te_unsup (by simp) _
                exact .noRoom (te_unsup (by simp) _)
              · refine TR.bindS hB (te_choose _) ?_
                rintro cap _ rfl
                refine TR.bindS hB (te_typeInfo e) ?_
                rintro j _ rfl
                refine TR.bindS hB (te_askRoom _) fun _ _ _ => ?_
                refine TR.bindS hB (tr_firstCells hB _ _ hx0) fun old OLD hold => ?_
                refine TR.bindS hB (tr_firstCells hB _ _ hy) fun new NEW hnew => ?_
                refine TR.bindS (Q := fun a b => a = b ∧ VR r a b) hB (tv_zeroValue hB hz') ?_
                rintro z _ ⟨rfl, hzz⟩
                refine TR.bind hB (tr_newRow e ((hold.append hnew).append (hzz.cells.zeroCells _))) fun _ _ _ _ _ ha => ?_
                exact .pure (.sliceAt (.inr ⟨_, _, rfl, rfl, ha⟩) _ _)
        | some t1 =>
          refine TR.bindS (Q := fun a b => a = b ∧ P.underlying t1 = some a) hB (te_underlying' t1) ?_
          rintro d _ ⟨rfl, hd1⟩
          have hd2 := hn _ h1
          refine TR.bindS (Q := fun a b => a = false ∧ b = false) hB ?_ ?_
          · cases d <;> first | exact .pure ⟨rfl, rfl, rfl⟩ | exact absurd hd1 (hd2 _)
          rintro _ _ ⟨rfl, rfl⟩
          simp only [Bool.false_eq_true, if_false, Bool.not_false, if_true, false_or]
          refine TR.bindS hB (te_lenOf hy) ?_
          rintro n _ rfl
          split
          · refine TR.bindS hB (tr_firstCells hB _ _ hy) fun new NEW hnew => ?_
            exact .pure (.nilSlice _ _)
          · refine TR.bindS hB (te_typeInfo e) ?_
            rintro i _ rfl
            split
            · exact TR.bindS (Q := fun _ _ => False) hB (te_errPanic _) fun _ _ h => h.elim
            · refine TR.bindS hB (te_typeInfo e) ?_
              rintro i _ rfl
              split
              · refine TR.bindS (Q := fun _ _ => False) hB ?_ fun _ _ h => h.elim
                refine TR.bindS hB (te_mayShare hB _ _ _ (.inl ⟨rfl, rfl⟩) hy) ?_
                rintro b _ rfl
                refine tr_if (fun _ => ?_) fun _ => te_unsup (by simp) _
                exact .noRoom (te_unsup (by simp) _)
              · refine TR.bindS hB (te_choose _) ?_
                rintro cap _ rfl
                refine TR.bindS hB (te_typeInfo e) ?_
                rintro j _ rfl
                refine TR.bindS hB (te_askRoom _) fun _ _ _ => ?_
                refine TR.bindS hB (tr_firstCells hB _ _ hx0) fun old OLD hold => ?_
                refine TR.bindS hB (tr_firstCells hB _ _ hy) fun new NEW hnew => ?_
                refine TR.bindS (Q := fun a b => a = b ∧ VR r a b) hB (tv_zeroValue hB hz') ?_
                rintro z _ ⟨rfl, hzz⟩
                refine TR.bind hB (tr_newRow e ((hold.append hnew).append (hzz.cells.zeroCells _))) fun _ _ _ _ _ ha => ?_
                exact .pure (.sliceAt (.inr ⟨_, _, rfl, rfl, ha⟩) _ _)
      | slice o s l c hb =>
        refine TR.bindS hB (te_sizeOf hB e) ?_
        rintro size _ rfl
        cases h1 : ts[1]? with
        | none =>
          refine TR.bindS (Q := fun a b => a = false ∧ b = false) hB (.pure ⟨rfl, rfl, rfl⟩) ?_
          rintro _ _ ⟨rfl, rfl⟩
          simp only [Bool.false_eq_true, if_false, Bool.not_false, if_true, false_or]
          refine TR.bindS hB (te_lenOf hy) ?_
          rintro n _ rfl
          split
          · refine TR.bindS hB (tr_firstCells hB _ _ hy) fun new NEW hnew => ?_
            refine TR.bindS hB (te_storeCells (DR.add (.mk o s hb) _) hnew.list 0) fun _ _ _ => ?_
            exact .pure (.slice o s _ _ hb)
          · refine TR.bindS hB (te_typeInfo e) ?_
            rintro i _ rfl
            split
            · exact TR.bindS (Q := fun _ _ => False) hB (te_errPanic _) fun _ _ h => h.elim
            · refine TR.bindS hB (te_typeInfo e) ?_
              rintro i _ rfl
              split
              · refine TR.bindS (Q := fun _ _ => False) hB ?_ fun _ _ h => h.elim
                refine TR.bindS hB (te_mayShare hB _ _ _ (.inr ⟨_, _, rfl, rfl, .mk o s hb⟩) hy) ?_
                rintro b _ rfl
                refine tr_if (fun _ => ?_) fun _ => te_unsup (by simp) _
                exact .noRoom (te_unsup (by simp) _)
              · refine TR.bindS hB (te_choose _) ?_
                rintro cap _ rfl
                refine TR.bindS hB (te_typeInfo e) ?_
                rintro j _ rfl
                refine TR.bindS hB (te_askRoom _) fun _ _ _ => ?_
                refine TR.bindS hB (tr_firstCells hB _ _ hx0) fun old OLD hold => ?_
                refine TR.bindS hB (tr_firstCells hB _ _ hy) fun new NEW hnew => ?_
                refine TR.bindS (Q := fun a b => a = b ∧ VR r a b) hB (tv_zeroValue hB hz') ?_
                rintro z _ ⟨rfl, hzz⟩
                refine TR.bind hB (tr_newRow e ((hold.append hnew).append (hzz.cells.zeroCells _))) fun _ _ _ _ _ ha => ?_
                exact .pure (.sliceAt (.inr ⟨_, _, rfl, rfl, ha⟩) _ _)
        | some t1 =>
          refine TR.bindS (Q := fun a b => a = b ∧ P.underlying t1 = some a) hB (te_underlying' t1) ?_
          rintro d _ ⟨rfl, hd1⟩
          have hd2 := hn _ h1
          refine TR.bindS (Q := fun a b => a = false ∧ b = false) hB ?_ ?_
          · cases d <;> first | exact .pure ⟨rfl, rfl, rfl⟩ | exact absurd hd1 (hd2 _)
          rintro _ _ ⟨rfl, rfl⟩
          simp only [Bool.false_eq_true, if_false, Bool.not_false, if_true, false_or]
          refine TR.bindS hB (te_lenOf hy) ?_
          rintro n _ rfl
          split
          · refine TR.bindS hB (tr_firstCells hB _ _ hy) fun new NEW hnew => ?_
            refine TR.bindS hB (te_storeCells (DR.add (.mk o s hb) _) hnew.list 0) fun _ _ _ => ?_
            exact .pure (.slice o s _ _ hb)
          · refine TR.bindS hB (te_typeInfo e) ?_
            rintro i _ rfl
            split
            · exact TR.bindS (Q := fun _ _ => False) hB (te_errPanic _) fun _ _ h => h.elim
            · refine TR.bindS hB (te_typeInfo e) ?_
              rintro i _ rfl
              split
              · refine TR.bindS (Q := fun _ _ => False) hB ?_ fun _ _ h => h.elim
                refine TR.bindS hB (te_mayShare hB _ _ _ (.inr ⟨_, _, rfl, rfl, .mk o s hb⟩) hy) ?_
                rintro b _ rfl
                refine tr_if (fun _ => ?_) fun _ => te_unsup (by simp) _
                exact .noRoom (te_unsup (by simp) _)
              · refine TR.bindS hB (te_choose _) ?_
                rintro cap _ rfl
                refine TR.bindS hB (te_typeInfo e) ?_
                rintro j _ rfl
                refine TR.bindS hB (te_askRoom _) fun _ _ _ => ?_
                refine TR.bindS hB (tr_firstCells hB _ _ hx0) fun old OLD hold => ?_
                refine TR.bindS hB (tr_firstCells hB _ _ hy) fun new NEW hnew => ?_
                refine TR.bindS (Q := fun a b => a = b ∧ VR r a b) hB (tv_zeroValue hB hz') ?_
                rintro z _ ⟨rfl, hzz⟩
                refine TR.bind hB (tr_newRow e ((hold.append hnew).append (hzz.cells.zeroCells _))) fun _ _ _ _ _ ha => ?_
                exact .pure (.sliceAt (.inr ⟨_, _, rfl, rfl, ha⟩) _ _)
      | _ => exact TR.halt trivial
    | _ => exact TR.halt trivial

end
end Go.Proofs.Ytgpplekabohneaa.Co

namespace Go.Proofs.Ytgpplekabohneaa.Co
open Go

section
variable {P : Program} {G : Nat} {r : Ren}

theorem tv_unsafeAdd (hB : Bi G r) (t : TypeId) {a A : Addr} (ha : DR r a A) {y Y : Value} (hy : VR r y Y) : TV P G r (Builtin.unsafeAdd_ #[] t #[.pointer (some a), y]) (Builtin.unsafeAdd_ #[] t #[.pointer (some A), Y]) := by
  unfold Builtin.unsafeAdd_
  refine TR.bindS hB (te_asInt hB hy) ?_
  rintro n _ rfl
  dsimp only
  split
  · refine TR.bindS hB (te_viewAt hB ha.block) ?_
    rintro _ _ ⟨rfl, rfl⟩
    exact .pure ⟨rfl, .ofDR ha⟩
  · split
    · exact TR.halt trivial
    · refine TR.bindS hB (te_shape ha.block) ?_
      rintro s _ rfl
      cases s with
      | none => exact TR.halt trivial
      | some s =>
        obtain ⟨e, cells⟩ := s
        cases ha using DR.cs with
        | mk o s hb =>
          refine .program ?_
          simp only [Sem.bind]
          split
          · exact .pure ⟨rfl, .ptr _ _ hb⟩
          · exact TR.halt trivial

theorem th_unsafeAddNil (hB : Bi G r) (t : TypeId) {y Y : Value} (hy : VR r y Y) : TV P G r (Builtin.unsafeAdd_ #[] t #[.pointer none, y]) (Builtin.unsafeAdd_ #[] t #[.pointer none, Y]) := by
  unfold Builtin.unsafeAdd_
  refine TR.bindS hB (te_asInt hB hy) ?_
  rintro n _ rfl
  dsimp only
  split
  · exact TR.halt trivial
  · split
    · exact TR.halt trivial
    · exact TR.halt trivial

theorem tn_movedNumber (hB : Bi G r) (t : TypeId) {x X y Y : Value} (hx : VR r x X) (hy : VR r y Y) (hp : ∃ a, x = .pointer a) : TN P G r (movedNumber t x y) (movedNumber t X Y) := by
  unfold movedNumber
  refine TR.bindS (Q := fun a b => a = b) hB (te_underlying t) ?_
  rintro d _ rfl
  dsimp only
  refine tr_if (fun _ => TR.halt trivial) fun _ => ?_
  cases hx using VR.cs with
  | nilPtr => exact (th_unsafeAddNil hB t hy).tn
  | ptr o s hb =>
    dsimp only
    refine TR.bindS (Q := fun x X => DR r x.1 X.1 ∧ x.2 = X.2) hB (tr_behind hB (.mk o s hb)) ?_
    rintro ⟨a, l⟩ ⟨A, L⟩ ⟨ha, hl⟩
    dsimp only at ha hl ⊢
    subst hl
    refine TR.bindS hB (tv_unsafeAdd hB t ha hy) fun v V hv => ?_
    cases hv using VR.cs with
    | ptr o s hb => exact .new (.number l (.mk o s hb)) fun r' n N _ hn _ => .pure (.ptr 0 none hn)
    | nilPtr => exact .pure .nilPtr
    | bool b => exact .pure (.bool b)
    | int k n => exact .pure (.int k n)
    | nilSlice l c => exact .pure (.nilSlice l c)
    | slice o s l c hb => exact .pure (.slice o s l c hb)
    | nilMap => exact .pure .nilMap
    | map hb => exact .pure (.map hb)
    | func f => exact .pure (.func f)
    | nilFunc => exact .pure .nilFunc
    | nilIface => exact .pure .nilIface
    | agg h1 h2 => exact .pure (.agg h1 h2)
    | tuple h1 h2 => exact .pure (.tuple h1 h2)
  | _ => obtain ⟨a, ha⟩ := hp; cases ha

/-- The operators that are used. -/
def BinOk (P : Program) (op : BinOp) (t : TypeId) : Prop :=
  (op = .add ∧ ∃ k, P.underlying t = some (.int k)) ∨ op = .lss ∨ op = .leq ∨ op = .gtr ∨ op = .geq ∨ ((op = .eql ∨ op = .neq) ∧ P.eqGuardType P.depth t = false)

theorem tn_addrCmp (hG : P.globals.size ≤ G) (hB : Bi G r) (op : BinOp) {a A b B : Addr} (ha : DR r a A) (hb : DR r b B) :
    TN P G r (do Op.addrCmp op (← behindNumber a).1 (← behindNumber b).1) (do Op.addrCmp op (← behindNumber A).1 (← behindNumber B).1) := by
  refine TR.bindS (Q := fun x X => DR r x.1 X.1 ∧ x.2 = X.2) hB (tr_behind hB ha) ?_
  rintro ⟨a, l⟩ ⟨A, L⟩ ⟨ha, -⟩
  refine TR.bindS (Q := fun x X => DR r x.1 X.1 ∧ x.2 = X.2) hB (tr_behind hB hb) ?_
  rintro ⟨b, l'⟩ ⟨B, L'⟩ ⟨hb, -⟩
  dsimp only
  unfold Op.addrCmp Op.twoPlaces
  refine .program ?_
  have : (a.block != b.block || decide (a.block ≥ P.globals.size)) = true := by
    have h : G ≤ a.block := (hB.low _ _ ha.block).1
    have : P.globals.size ≤ a.block := Nat.le_trans hG h
    simp [this]
  simp only [Sem.bind, this, if_true]
  exact TR.halt trivial

theorem tn_equal (hG : P.globals.size ≤ G) (hB : Bi G r) (t : TypeId) {x X y Y : Value} (hx : VR r x X) (hy : VR r y Y) (f : Bool → Bool) : TN P G r (do pure (.bool (f (← Op.equal t x y)))) (do pure (.bool (f (← Op.equal t X Y)))) := by
  refine TR.bindS hB (te_equal hG hB t hx hy) ?_
  rintro b _ rfl
  exact .pure (.bool _)

theorem tn_ints (op : BinOp) (t : TypeId) (h : op = .add ∨ op = .eql ∨ op = .neq ∨ op = .lss ∨ op = .leq ∨ op = .gtr ∨ op = .geq) (k k' : IntKind) (a b : Int) : TN P G r (binOp op t (.int k a) (.int k' b)) (binOp op t (.int k a) (.int k' b)) := by
  rcases h with rfl | rfl | rfl | rfl | rfl | rfl | rfl <;> (unfold binOp; dsimp only; split) <;> first | exact TR.halt trivial | exact .pure (.int _ _) | exact .pure (.bool _)

theorem tn_cmp (hG : P.globals.size ≤ G) (hB : Bi G r) (op : BinOp) (t : TypeId) (h : op = .lss ∨ op = .leq ∨ op = .gtr ∨ op = .geq) {x X y Y : Value} (hx : VR r x X) (hy : VR r y Y) : TN P G r (binOp op t x y) (binOp op t X Y) := by
  cases hx using VR.cs <;> cases hy using VR.cs <;> first | exact tn_ints _ _ (by rcases h with rfl | rfl | rfl | rfl <;> simp) _ _ _ _ | (rcases h with rfl | rfl | rfl | rfl <;> first | exact TR.halt trivial | exact tn_addrCmp hG hB _ (.mk _ _ (by assumption)) (.mk _ _ (by assumption)))

theorem tn_add (hB : Bi G r) (t : TypeId) (ht : ∃ k, P.underlying t = some (.int k)) {x X y Y : Value} (hx : VR r x X) (hy : VR r y Y) : TN P G r (binOp .add t x y) (binOp .add t X Y) := by
  have mp : ∀ {a A b B : Value}, VR r a A → VR r b B → (∃ p, a = .pointer p) → TN P G r (do if (← underlying t) matches .unsafePointer then movedPointer t a b else movedNumber t a b) (do if (← underlying t) matches .unsafePointer then movedPointer t A B else movedNumber t A B) := by
    intro a A b B ha hb hp
    refine TR.bindS (Q := fun a b => a = b ∧ P.underlying t = some a) hB (te_underlying' t) ?_
    rintro d _ ⟨rfl, hd⟩
    obtain ⟨k, hk⟩ := ht
    obtain rfl : d = .int k := by rw [hk] at hd; exact (Option.some.inj hd).symm
    exact tn_movedNumber hB t ha hb hp
  have hx' := hx
  have hy' := hy
  cases hx using VR.cs <;> cases hy using VR.cs <;> first | exact tn_ints _ _ (by simp) _ _ _ _ | exact TR.halt trivial | exact mp hx' hy' ⟨_, rfl⟩ | exact tn_movedNumber hB t hy' hx' ⟨_, rfl⟩

theorem tn_eql (hG : P.globals.size ≤ G) (hB : Bi G r) (t : TypeId) {x X y Y : Value} (hx : VR r x X) (hy : VR r y Y) : TN P G r (binOp .eql t x y) (binOp .eql t X Y) := by
  have h := tn_equal hG hB t hx hy id
  cases hx using VR.cs <;> cases hy using VR.cs <;> first | exact tn_ints _ _ (by simp) _ _ _ _ | exact h

theorem tn_neq (hG : P.globals.size ≤ G) (hB : Bi G r) (t : TypeId) {x X y Y : Value} (hx : VR r x X) (hy : VR r y Y) : TN P G r (binOp .neq t x y) (binOp .neq t X Y) := by
  have h := tn_equal hG hB t hx hy not
  cases hx using VR.cs <;> cases hy using VR.cs <;> first | exact tn_ints _ _ (by simp) _ _ _ _ | exact h

/-- The operands are no two nil interfaces, or a literal nil is among them. -/
theorem te_guardNil (hB : Bi G r) (t : TypeId) : TE P G r (Op.eqGuardIn Op.maxDepth t .nilIface .nilIface) (Op.eqGuardIn Op.maxDepth t .nilIface .nilIface) := by
  refine TR.bindS (Q := fun a b => a = b) hB (te_underlying t) ?_
  rintro d _ rfl
  cases d <;> exact te_pure _

theorem te_eqGuard (hB : Bi G r) (op : BinOp) (t : TypeId) (p q : Operand) {x X y Y : Value} (hx : VR r x X) (hy : VR r y Y) (hg : op = .eql ∨ op = .neq → P.eqGuardType P.depth t = false) :
    TE P G r (eqGuard op t p q x y) (eqGuard op t p q X Y) := by
  unfold eqGuard
  cases op <;> first | exact te_pure _ | skip
  · have hg := hg (.inl rfl)
    cases hx using VR.cs <;> cases hy using VR.cs <;> first
      | exact te_pure _
      | (dsimp only
         refine tr_if (fun _ => te_pure _) fun _ => ?_
         refine tr_if (fun _ => te_pure _) fun _ => ?_
         refine TR.bindS hB (te_guardNil hB t) ?_
         rintro b _ rfl
         exact tr_if (fun _ => TR.halt trivial) fun _ => te_pure _)
      | (refine .program (.program ?_)
         simp only [Sem.bind, hg, Bool.not_false, if_true]
         exact .pure ⟨rfl, trivial⟩)
  · have hg := hg (.inr rfl)
    cases hx using VR.cs <;> cases hy using VR.cs <;> first
      | exact te_pure _
      | (dsimp only
         refine tr_if (fun _ => te_pure _) fun _ => ?_
         refine tr_if (fun _ => te_pure _) fun _ => ?_
         refine TR.bindS hB (te_guardNil hB t) ?_
         rintro b _ rfl
         exact tr_if (fun _ => TR.halt trivial) fun _ => te_pure _)
      | (refine .program (.program ?_)
         simp only [Sem.bind, hg, Bool.not_false, if_true]
         exact .pure ⟨rfl, trivial⟩)

theorem tn_binOp (hG : P.globals.size ≤ G) (hB : Bi G r) {op : BinOp} {t : TypeId} (h : BinOk P op t) {x X y Y : Value} (hx : VR r x X) (hy : VR r y Y) : TN P G r (binOp op t x y) (binOp op t X Y) := by
  rcases h with ⟨rfl, h⟩ | rfl | rfl | rfl | rfl | ⟨rfl | rfl, _⟩
  · exact tn_add hB t h hx hy
  · exact tn_cmp hG hB _ t (by simp) hx hy
  · exact tn_cmp hG hB _ t (by simp) hx hy
  · exact tn_cmp hG hB _ t (by simp) hx hy
  · exact tn_cmp hG hB _ t (by simp) hx hy
  · exact tn_eql hG hB t hx hy
  · exact tn_neq hG hB t hx hy

/-! ### the operation as a whole -/
structure NR.Cl (r : Ren) (M : Next → Next → Prop) : Prop where
  all ::
  value : ∀ {v V : Value}, VR r v V → M (.value v) (.value V)
  skip : M .skip .skip
  enter : ∀ {c C : Array Value} (f : FuncId), AR r c C → M (.enter f c) (.enter f C)
/-- What two operations yield. -/
def NR (r : Ren) (x : Next) (y : Next) : Prop := ∀ M : Next → Next → Prop, NR.Cl r M → M x y
theorem NR.value {r : Ren} {v V : Value} (h1 : VR r v V) : NR r (.value v) (.value V) := fun _ cl => cl.value h1
theorem NR.skip {r : Ren} : NR r .skip .skip := fun _ cl => cl.skip 
theorem NR.enter {r : Ren} {c C : Array Value} (f : FuncId) (h1 : AR r c C) : NR r (.enter f c) (.enter f C) := fun _ cl => cl.enter f h1
theorem NR.cs {r : Ren} {motive : (x : Next) → (y : Next) → NR r x y → Prop} {x : Next} {y : Next} (t : NR r x y) (value : ∀ {v V : Value} (h1 : VR r v V), motive (.value v) (.value V) (NR.value h1))
    (skip : motive .skip .skip NR.skip)
    (enter : ∀ {c C : Array Value} (f : FuncId) (h1 : AR r c C), motive (.enter f c) (.enter f C) (NR.enter f h1)) : motive x y t :=
  t (fun x y => ∀ h : NR r x y, motive x y h) ⟨fun h1 _ => value h1, fun _ => skip, fun f h1 _ => enter f h1⟩ t
/-- A literal without an address. -/
def OpdOk : Operand → Prop
  | .tmp _ => True
  | .const v => ∀ r, VR r v v
  | .global _ => False
  | .func _ => True

def OptOk : Option Operand → Prop
  | none => True
  | some x => OpdOk x

/-- The makes of operation that are used. -/
def OpOk (P : Program) (F : FuncId → Prop) : Op → Prop
  | .move x | .assign x | .nilCheck x | .unOp .not _ x | .extract x _ | .box _ x | .load _ x => OpdOk x
  | .pick c a b => OpdOk c ∧ OpdOk a ∧ OpdOk b
  | .alloc t => ZeroFlat P t
  | .build t ps => ZeroFlat P t ∧ ∀ x ∈ ps, OpdOk x.2
  | .buildSlice t _ ps => (∀ e, P.underlying t = some (.slice e) → ZeroFlat P e) ∧ ∀ x ∈ ps, OpdOk x.2
  | .store _ a v => OpdOk a ∧ OpdOk v
  | .binOp op t x y _ => BinOk P op t ∧ OpdOk x ∧ OpdOk y
  | .slice t x a b c => (∃ e, P.underlying t = some (.slice e)) ∧ OpdOk x ∧ OptOk a ∧ OptOk b ∧ OptOk c
  | .fieldAddr s x n => FieldOk P s n ∧ OpdOk x
  | .indexAddr _ x i => OpdOk x ∧ OpdOk i
  | .lookup t x i _ => (∀ k e, P.underlying t = some (.map k e) → ZeroFlat P e) ∧ OpdOk x ∧ OpdOk i
  | .mapUpdate _ m k v => OpdOk m ∧ OpdOk k ∧ OpdOk v
  | .call { callee := .value (.func f), args := args, argTypes := _ } => F f ∧ (∃ fn, P.funcs[f]? = some fn ∧ (fn.name == "runtime.NumGoroutine") = false ∧ fn.body.isNone = false) ∧ ∀ x ∈ args, OpdOk x
  | .call { callee := .builtin .len, args := args, argTypes := _ } => ∃ x, args = #[x] ∧ OpdOk x
  | .call { callee := .builtin .clear, args := args, argTypes := ts } => (∃ x, args = #[x] ∧ OpdOk x) ∧ ∀ t0 e, ts[0]? = some t0 → P.underlying t0 = some (.slice e) → ZeroFlat P e
  | .call { callee := .builtin .append, args := args, argTypes := ts } => (∃ x y, args = #[x, y] ∧ OpdOk x ∧ OpdOk y) ∧ (∀ t0 e, ts[0]? = some t0 → P.underlying t0 = some (.slice e) → ZeroFlat P e) ∧ ∀ t1, ts[1]? = some t1 → ∀ k, P.underlying t1 ≠ some (.int k)
  | _ => False

theorem PR.map {ev EV : Operand → Value} : ∀ {ps : List (Nat × Operand)}, (∀ x ∈ ps, VR r (ev x.2) (EV x.2)) → PR r (ps.map fun (i, x) => (i, ev x)) (ps.map fun (i, x) => (i, EV x))
  | [], _ => .nil
  | (n, x) :: ps, h => .cons (h (n, x) (by simp)) (PR.map fun y hy => h y (by simp [hy]))

theorem AR.map {ev EV : Operand → Value} {as : Array Operand} (h : ∀ x ∈ as, VR r (ev x) (EV x)) : AR r (as.map ev) (as.map EV) :=
  ⟨by simp, fun i h1 h2 => by simp only [Array.getElem_map]; exact h _ (Array.getElem_mem _)⟩

theorem tr_execOp (hG : P.globals.size ≤ G) (hB : Bi G r) {F : FuncId → Prop} {ev EV : Operand → Value} (hev : ∀ x, OpdOk x → VR r (ev x) (EV x)) (hfn : ∀ f, ev (.func f) = .func (.func f) #[] #[] ∧ EV (.func f) = .func (.func f) #[] #[]) {o : Oper} (ho : OpOk P F o.op) :
    TR P G (fun r' a b => NR r' a b ∧ ∀ f c, a = .enter f c → F f) r (execOp ev o) (execOp EV o) := by
  have nv : ∀ {s S : Sem Value}, TN P G r s S → TR P G (fun r' a b => NR r' a b ∧ ∀ f c, a = .enter f c → F f) r (do pure (.value (← s))) (do pure (.value (← S))) := fun h =>
    TR.bind hB h fun _ _ _ _ _ hv => .pure ⟨.value hv, by simp⟩
  have nu : ∀ {s S : Sem Unit}, TE P G r s S → TR P G (fun r' a b => NR r' a b ∧ ∀ f c, a = .enter f c → F f) r (do s; pure .skip) (do S; pure .skip) := fun h =>
    TR.bindS hB h fun _ _ _ => .pure ⟨.skip, by simp⟩
  unfold execOp
  cases hop : o.op with
  | move x => rw [hop] at ho; exact .pure ⟨.value (hev x ho), by simp⟩
  | assign x => rw [hop] at ho; exact .pure ⟨.value (hev x ho), by simp⟩
  | pick c a b =>
    rw [hop] at ho
    refine TR.bindS hB (te_asBool (hev c ho.1)) ?_
    rintro v _ rfl
    cases v with
    | true => exact .pure ⟨.value (hev a ho.2.1), by simp⟩
    | false => exact .pure ⟨.value (hev b ho.2.2), by simp⟩
  | alloc t => rw [hop] at ho; exact nv (tn_alloc hB ho)
  | box t x => rw [hop] at ho; exact nv (tn_box hB t (hev x ho))
  | build t ps =>
    rw [hop] at ho
    have := tv_build (P := P) hB ho.1 (PR.map (ev := ev) (EV := EV) (ps := ps.toList) fun x hx => hev _ (ho.2 x (by simpa using hx)))
    have e : ∀ g : Operand → Value, (ps.toList.map fun (i, x) => (i, g x)).toArray = ps.map fun (i, x) => (i, g x) := fun g => by apply Array.ext'; simp
    rw [e, e] at this
    exact nv this.tn
  | buildSlice t n ps =>
    rw [hop] at ho
    have := tn_buildSlice (P := P) hB ho.1 n (PR.map (ev := ev) (EV := EV) (ps := ps.toList) fun x hx => hev _ (ho.2 x (by simpa using hx)))
    have e : ∀ g : Operand → Value, (ps.toList.map fun (i, x) => (i, g x)).toArray = ps.map fun (i, x) => (i, g x) := fun g => by apply Array.ext'; simp
    rw [e, e] at this
    exact nv this
  | load t x => rw [hop] at ho; exact nv (tv_loadAt hB t (hev x ho)).tn
  | store t a v => rw [hop] at ho; exact nu (te_storeAt hB t (hev a ho.1) (hev v ho.2))
  | nilCheck x =>
    rw [hop] at ho
    have h := hev x ho
    have lift : ∀ {v V : Value}, VR r v V → TR P G (fun r' a b => NR r' a b ∧ ∀ f c, a = .enter f c → F f) r (pure (.value v)) (pure (.value V)) := fun h => .pure ⟨.value h, by simp⟩
    revert h
    dsimp only
    generalize ev x = v
    generalize EV x = V
    intro h
    have h' := h
    cases h using VR.cs <;> first | exact lift h' | exact te_rtPanic (by simp) (by simp)
  | binOp op t x y ty =>
    rw [hop] at ho
    refine nv ?_
    refine TR.bindS hB (te_eqGuard hB op t x y (hev x ho.2.1) (hev y ho.2.2) ?_) fun _ _ _ => tn_binOp hG hB ho.1 (hev x ho.2.1) (hev y ho.2.2)
    rintro hop
    rcases ho.1 with ⟨rfl, _⟩ | rfl | rfl | rfl | rfl | ⟨_, h⟩ <;> first | exact h | (rcases hop with h | h <;> cases h)
  | unOp op t x =>
    rw [hop] at ho
    cases op with
    | not => exact nv (tv_not (hev x ho)).tn
    | _ => exact ho.elim
  | slice t x a b c =>
    rw [hop] at ho
    have hm : ∀ {y : Option Operand}, OptOk y → MR r (y.map ev) (y.map EV) := by
      intro y hy
      cases y with
      | none => trivial
      | some y => exact hev y hy
    exact nv (tv_sliceAt hB t (hev x ho.2.1) (hm ho.2.2.1) (hm ho.2.2.2.1) (hm ho.2.2.2.2) ho.1).tn
  | fieldAddr s x n => rw [hop] at ho; exact nv (tv_fieldAt hB ho.1 (hev x ho.2)).tn
  | indexAddr t x i => rw [hop] at ho; exact nv (tv_indexAt hB t (hev x ho.1) (hev i ho.2)).tn
  | lookup t x i ok => rw [hop] at ho; exact nv (tv_lookup hG hB t ho.1 (hev x ho.2.1) (hev i ho.2.2) ok).tn
  | mapUpdate t m k v => rw [hop] at ho; exact nu (te_mapUpdate hG hB t (hev m ho.1) (hev k ho.2.1) (hev v ho.2.2))
  | extract x n => rw [hop] at ho; exact nv (tv_extract (hev x ho) n).tn
  | call c =>
    rw [hop] at ho
    obtain ⟨callee, args, ts⟩ := c
    cases callee with
    | invoke a b => exact ho.elim
    | value f =>
      cases f with
      | func f =>
        obtain ⟨hF, ⟨fn, h1, h2, h3⟩, h4⟩ := ho
        have hargs := AR.map (r := r) (ev := ev) (EV := EV) fun x hx => hev x (h4 x hx)
        dsimp only
        unfold resolve
        dsimp only
        rw [(hfn f).1, (hfn f).2]
        refine .program ?_
        simp only [Sem.bind, h1, h2, h3, Bool.false_eq_true, if_false]
        refine .pure ⟨.enter f ?_, by rintro _ _ h; cases h; exact hF⟩
        simpa using hargs
      | tmp t => exact ho.elim
      | const v => exact ho.elim
      | global g => exact ho.elim
    | builtin b =>
      cases b with
      | len =>
        obtain ⟨x, rfl, ho⟩ := ho
        have := te_len (P := P) hB ts o.type (hev x ho)
        refine nv ?_
        show TN P G r (Builtin.len_ ts o.type (#[x].map ev)) (Builtin.len_ ts o.type (#[x].map EV))
        simpa only [List.map_toArray, List.map_cons, List.map_nil] using this.tn
      | clear =>
        obtain ⟨⟨x, rfl, ho⟩, hz⟩ := ho
        have := te_clear (P := P) hB ts o.type (hev x ho) hz
        refine nv ?_
        show TN P G r (Builtin.clear_ ts o.type (#[x].map ev)) (Builtin.clear_ ts o.type (#[x].map EV))
        simpa only [List.map_toArray, List.map_cons, List.map_nil] using this.tn
      | append =>
        obtain ⟨⟨x, y, rfl, hx, hy⟩, hz, hn⟩ := ho
        have := tn_append (P := P) hB ts o.type (hev x hx) (hev y hy) hz hn
        refine nv ?_
        show TN P G r (Builtin.append_ ts o.type (#[x, y].map ev)) (Builtin.append_ ts o.type (#[x, y].map EV))
        simpa only [List.map_toArray, List.map_cons, List.map_nil] using this
      | _ => exact ho.elim
  | _ => rw [hop] at ho; exact ho.elim

end
end Go.Proofs.Ytgpplekabohneaa.Co

namespace Go.Proofs.Ytgpplekabohneaa.Co
open Go Go.Conc

/-! ### the step as a program -/
abbrev Out := Frame ⊕ (FuncId × Array Value) ⊕ Value
abbrev Out.go (fr : Frame) : Out := .inl fr
abbrev Out.enter (f : FuncId) (args : Array Value) : Out := .inr (.inl (f, args))
abbrev Out.ret (v : Value) : Out := .inr (.inr v)
theorem Out.cs {motive : Out → Prop} (o : Out) (go : ∀ fr, motive (.go fr)) (enter : ∀ f args, motive (.enter f args)) (ret : ∀ v, motive (.ret v)) : motive o :=
  match o with
  | .inl fr => go fr
  | .inr (.inl (f, a)) => enter f a
  | .inr (.inr v) => ret v

def outOf (fr : Frame) : Next → Sem Out
  | .value v => pure (.go (fr.finish v))
  | .skip => pure (.go (fr.finish undef))
  | .enter f args => pure (.enter f args)
  | _ => .halt (.stuck "")

def actC (P : Program) (fr : Frame) (k : List Item) : Code → Sem Out
  | .ret => pure (.go { fr with mode := .returning })
  | .skip | .label _ => pure (.go { fr with todo := k })
  | .seq a b => pure (.go { fr with todo := .code a :: .code b :: k })
  | .cond c thn els => match fr.eval c with
    | .bool b => pure (.go { fr with todo := .code (if b then thn else els) :: k })
    | _ => .halt (.stuck "")
  | .block id body => pure (.go { fr with todo := .code body :: .inBlock id :: k })
  | .loop body => pure (.go { fr with todo := .code body :: .inLoop body :: k })
  | .scope body => pure (.go { fr with todo := .code body :: .inScope body :: k })
  | .exit id => match exitTo id k with
    | some k' => pure (.go { fr with todo := k' })
    | none => .halt (.stuck "")
  | .goto l => match gotoIn l k with
    | some k' => pure (.go { fr with todo := k' })
    | none => .halt (.stuck "")
  | .region id ops draw =>
    if draw then .choose (.order fr.fn id) fun t => pure (.go { fr with todo := .inRegion ops (Region.schedule (P.follows .mixedOrders) ops t) :: k })
    else pure (.go { fr with todo := .inRegion ops (List.range ops.size) :: k })
  | _ => .halt (.stuck "")

def actI (P : Program) (fr : Frame) : List Item → Sem Out
  | [] => pure (.go { fr with mode := .returning })
  | .code c :: k => actC P fr k c
  | .inBlock _ :: k | .inScope _ :: k | .inRegion _ [] :: k => pure (.go { fr with todo := k })
  | .inLoop body :: k => pure (.go { fr with todo := .code body :: .inLoop body :: k })
  | .inRegion ops (i :: _) :: _ =>
    match ops[i]? with
    | some o => if Region.wanted o (yielded ops fr.tmps) then execOp fr.eval o >>= outOf fr else pure (.go (fr.finish undef))
    | none => pure (.go (fr.finish undef))
  | _ => .halt (.stuck "")

def act (P : Program) (fr : Frame) : Sem Out :=
  match fr.mode with
  | .run => actI P fr fr.todo
  | .returning => match P.funcs[fr.fn]? with
    | some fn => results fn fr.tmps >>= fun v => pure (.ret v)
    | none => .halt (.stuck "")
  | .panicking _ => .halt (.stuck "")

/-- Where the step leads. -/
def place (P : Program) (fr : Frame) (cs : List Frame) : Out → Option (Frame × List Frame)
  | .inl fr' => some (fr', cs)
  | .inr (.inl (f, args)) => some (Frame.enter P f args .normal, fr :: cs)
  | .inr (.inr v) => match cs with
    | [] => none
    | c :: r => some (c.finish v, r)

/-! ### plain code -/
section
variable (P : Program) (F : FuncId → Prop)

def CodeOk : Code → Prop
  | .skip | .exit _ | .goto _ | .label _ | .ret => True
  | .region _ ops _ => ∀ o ∈ ops, OpOk P F o.op
  | .seq a b => CodeOk a ∧ CodeOk b
  | .cond c a b => OpdOk c ∧ CodeOk a ∧ CodeOk b
  | .block _ c | .loop c | .scope c => CodeOk c
  | _ => False

def ItemOk : Item → Prop
  | .code c | .inLoop c | .inScope c => CodeOk P F c
  | .inBlock _ => True
  | .inRegion ops _ => ∀ o ∈ ops, OpOk P F o.op
  | _ => False

def FuncOk (f : FuncId) : Prop := ∃ fn c, P.funcs[f]? = some fn ∧ fn.body = some c ∧ CodeOk P F c

/-- A frame that keeps to plain code. -/
structure Plain (fr : Frame) : Prop where
  md : fr.mode = .run ∨ fr.mode = .returning
  kind : fr.kind = .normal
  defers : fr.defers = []
  round : fr.roundOf = none
  ok : ∀ x ∈ fr.todo, ItemOk P F x
  fok : F fr.fn
end

section
variable {P : Program} {F : FuncId → Prop}

theorem exitTo_ok {id : Nat} : ∀ {k k' : List Item}, exitTo id k = some k' → (∀ x ∈ k, ItemOk P F x) → ∀ x ∈ k', ItemOk P F x
  | [], _, h, _ => by simp [exitTo] at h
  | i :: k, k', h, hk => by
    have hk' : ∀ x ∈ k, ItemOk P F x := fun x hx => hk x (by simp [hx])
    cases i with
    | inBlock j =>
      simp only [exitTo] at h
      split at h
      · cases h; exact hk'
      · exact exitTo_ok h hk'
    | _ => exact exitTo_ok (by simpa only [exitTo] using h) hk'

theorem findLabel_ok {l : Nat} : ∀ {c rest : Code}, findLabel c l = some rest → CodeOk P F c → CodeOk P F rest
  | .seq a b, rest, h, hc => by
    simp only [findLabel] at h
    split at h
    · rename_i r hr
      cases h
      exact ⟨findLabel_ok hr hc.1, hc.2⟩
    · exact findLabel_ok h hc.2
  | .label l', rest, h, _ => by
    simp only [findLabel] at h
    split at h
    · cases h; trivial
    · cases h
  | .skip, _, h, _ | .region .., _, h, _ | .cond .., _, h, _ | .block .., _, h, _ | .loop .., _, h, _ | .rangeFunc .., _, h, _ | .exit .., _, h, _ | .scope .., _, h, _ | .goto .., _, h, _ | .ret, _, h, _ | .refuse .., _, h, _ => by simp [findLabel] at h

theorem gotoIn_ok {l : Nat} : ∀ {k k' : List Item}, gotoIn l k = some k' → (∀ x ∈ k, ItemOk P F x) → ∀ x ∈ k', ItemOk P F x
  | [], _, h, _ => by simp [gotoIn] at h
  | i :: k, k', h, hk => by
    have hk' : ∀ x ∈ k, ItemOk P F x := fun x hx => hk x (by simp [hx])
    cases i with
    | inScope body =>
      simp only [gotoIn] at h
      split at h
      · rename_i rest hr
        cases h
        intro x hx
        simp only [List.mem_cons] at hx
        rcases hx with rfl | rfl | hx
        · exact findLabel_ok hr (hk (.inScope body) (by simp))
        · exact hk _ (by simp)
        · exact hk' x hx
      · exact gotoIn_ok h hk'
    | _ => exact gotoIn_ok (by simpa only [gotoIn] using h) hk'

/-! ### the goroutine's own step is that program -/
theorem events_pure {α : Type} (a : α) (w : World) (es : Array Event) : (pure a : Sem α).events P w es = es := rfl

theorem events_order {α : Type} (fn id : Nat) (f : Nat → α) (w : World) (es : Array Event) : (Sem.choose (.order fn id) fun t => (pure (f t) : Sem α)).events P w es = es := rfl

theorem stepG_act {fr : Frame} {cs : List Frame} {w w' : World} {main : Bool} {out : Out} {fr' : Frame} {cs' : List Frame} (hp : Plain P F fr) (h : (act P fr).run P w = .ok out w') (hpl : place P fr cs out = some (fr', cs')) :
    stepG P main (G fr cs) w = .go (G fr' cs') w' (seen P fr.fn ((act P fr).events P w #[])) := by
  obtain ⟨fn, tmps, todo, defers, mode, kind, round⟩ := fr
  obtain ⟨hm, hk, hd, hr, hok, -⟩ := hp
  dsimp only at hm hk hd hr hok
  subst hk hd hr
  have pure1 : ∀ {f1 : Frame} {w : World}, (pure (Out.go f1) : Sem Out).run P w = .ok out w' → w' = w ∧ fr' = f1 ∧ cs' = cs := by
    intro f1 w h
    simp only [pure, Sem.run, Result.ok.injEq] at h
    obtain ⟨rfl, rfl⟩ := h
    simp only [place, Option.some.injEq, Prod.mk.injEq] at hpl
    exact ⟨rfl, hpl.1.symm, hpl.2.symm⟩
  rcases hm with rfl | rfl
  · unfold act at h ⊢
    dsimp only at h ⊢
    cases todo with
    | nil =>
      simp only [actI] at h ⊢
      obtain ⟨rfl, rfl, rfl⟩ := pure1 h
      simp [G, stepG, stepG.exec, seen_none]
    | cons i k =>
      cases i with
      | code c =>
        simp only [actI] at h ⊢
        cases c with
        | ret => simp only [actC] at h ⊢; obtain ⟨rfl, rfl, rfl⟩ := pure1 h; simp [G, stepG, stepG.exec, seen_none]
        | skip => simp only [actC] at h ⊢; obtain ⟨rfl, rfl, rfl⟩ := pure1 h; simp [G, stepG, stepG.exec, seen_none]
        | label l => simp only [actC] at h ⊢; obtain ⟨rfl, rfl, rfl⟩ := pure1 h; simp [G, stepG, stepG.exec, seen_none]
        | seq a b => simp only [actC] at h ⊢; obtain ⟨rfl, rfl, rfl⟩ := pure1 h; simp [G, stepG, stepG.exec, seen_none]
        | block id b => simp only [actC] at h ⊢; obtain ⟨rfl, rfl, rfl⟩ := pure1 h; simp [G, stepG, stepG.exec, seen_none]
        | loop b => simp only [actC] at h ⊢; obtain ⟨rfl, rfl, rfl⟩ := pure1 h; simp [G, stepG, stepG.exec, seen_none]
        | scope b => simp only [actC] at h ⊢; obtain ⟨rfl, rfl, rfl⟩ := pure1 h; simp [G, stepG, stepG.exec, seen_none]
        | cond c a b =>
          simp only [actC] at h ⊢
          cases he : Frame.eval { fn := fn, tmps := tmps, todo := .code (.cond c a b) :: k, defers := [], mode := .run, kind := .normal, roundOf := none } c <;> simp only [he] at h ⊢ <;> first | (cases h; done) | skip
          obtain ⟨rfl, rfl, rfl⟩ := pure1 h
          simp [G, stepG, stepG.exec, seen_none, he]
        | exit id =>
          simp only [actC] at h ⊢
          cases he : exitTo id k <;> simp only [he] at h ⊢ <;> first | (cases h; done) | skip
          obtain ⟨rfl, rfl, rfl⟩ := pure1 h
          simp [G, stepG, stepG.exec, seen_none, he]
        | goto l =>
          simp only [actC] at h ⊢
          cases he : gotoIn l k <;> simp only [he] at h ⊢ <;> first | (cases h; done) | skip
          obtain ⟨rfl, rfl, rfl⟩ := pure1 h
          simp [G, stepG, stepG.exec, seen_none, he]
        | region id ops draw =>
          simp only [actC] at h ⊢
          cases draw with
          | false =>
            simp only [Bool.false_eq_true, if_false] at h ⊢
            obtain ⟨rfl, rfl, rfl⟩ := pure1 h
            simp [G, stepG, stepG.exec, seen_none]
          | true =>
            simp only [if_true, Sem.run, Question.forced, Bool.false_eq_true, if_false, Question.cut] at h ⊢
            obtain ⟨rfl, rfl, rfl⟩ := pure1 h
            rw [events_order]
            simp [G, stepG, stepG.exec, choose, Sem.run, Question.forced, Question.cut, seen_none]
        | rangeFunc f p a b => simp only [actC] at h; cases h
        | refuse s => simp only [actC] at h; cases h
      | inBlock id => simp only [actI] at h ⊢; obtain ⟨rfl, rfl, rfl⟩ := pure1 h; simp [G, stepG, stepG.exec, seen_none]
      | inScope c => simp only [actI] at h ⊢; obtain ⟨rfl, rfl, rfl⟩ := pure1 h; simp [G, stepG, stepG.exec, seen_none]
      | inLoop c => simp only [actI] at h ⊢; obtain ⟨rfl, rfl, rfl⟩ := pure1 h; simp [G, stepG, stepG.exec, seen_none]
      | inRegion ops l =>
        cases l with
        | nil => simp only [actI] at h ⊢; obtain ⟨rfl, rfl, rfl⟩ := pure1 h; simp [G, stepG, stepG.exec, seen_none]
        | cons j rest =>
          simp only [actI] at h ⊢
          cases ho : ops[j]? with
          | none =>
            simp only [ho] at h ⊢
            obtain ⟨rfl, rfl, rfl⟩ := pure1 h
            simp [G, stepG, stepG.exec, seen_none, ho]
          | some o =>
            simp only [ho] at h ⊢
            cases hw : Region.wanted o (yielded ops tmps) with
            | false =>
              simp only [hw, Bool.false_eq_true, if_false] at h ⊢
              obtain ⟨rfl, rfl, rfl⟩ := pure1 h
              simp [G, stepG, stepG.exec, seen_none, ho, hw]
            | true =>
              simp only [hw, if_true] at h ⊢
              cases he : (execOp (Frame.eval { fn := fn, tmps := tmps, todo := .inRegion ops (j :: rest) :: k, defers := [], mode := .run, kind := .normal, roundOf := none }) o).run P w with
              | halt x w1 =>
                rw [Sem.run_bind, he] at h
                cases h
              | ok n w1 =>
                rw [Sem.run_bind, he] at h
                simp only [Result.andThen] at h
                rw [Sem.events_bind, he]
                cases n with
                | value v =>
                  simp only [outOf] at h ⊢
                  obtain ⟨rfl, rfl, rfl⟩ := pure1 h
                  simp [G, stepG, stepG.exec, stepG.oper, stepG.apply, Frame.oper?, ho, hw, he, GStep.after]
                | skip =>
                  simp only [outOf] at h ⊢
                  obtain ⟨rfl, rfl, rfl⟩ := pure1 h
                  simp [G, stepG, stepG.exec, stepG.oper, stepG.apply, Frame.oper?, ho, hw, he, GStep.after]
                | enter f c =>
                  simp only [outOf, pure, Sem.run, Result.ok.injEq] at h ⊢
                  obtain ⟨rfl, rfl⟩ := h
                  simp only [place, Option.some.injEq, Prod.mk.injEq] at hpl
                  obtain ⟨rfl, rfl⟩ := hpl
                  simp [G, stepG, stepG.exec, stepG.oper, stepG.apply, Frame.oper?, ho, hw, he, GStep.after]
                | _ => cases h
      | _ => simp only [actI] at h; cases h
  · unfold act at h ⊢
    dsimp only at h ⊢
    cases hf : P.funcs[fn]? with
    | none => simp only [hf] at h; cases h
    | some f =>
      simp only [hf] at h ⊢
      cases he : (results f tmps).run P w with
      | halt x w1 => rw [Sem.run_bind, he] at h; cases h
      | ok v w1 =>
        rw [Sem.run_bind, he] at h
        simp only [Result.andThen, pure, Sem.run, Result.ok.injEq] at h
        obtain ⟨rfl, rfl⟩ := h
        rw [Sem.events_bind, he]
        cases cs with
        | nil => simp [place] at hpl
        | cons c r =>
          simp only [place, Option.some.injEq, Prod.mk.injEq] at hpl
          obtain ⟨rfl, rfl⟩ := hpl
          simp [G, stepG, unwind, doReturn, hf, he, GStep.after, pure]

/-- Where that program halts the goroutine panics, or the run ends. -/
theorem stepG_act_halt {fr : Frame} {cs : List Frame} {w w' : World} {main : Bool} {x : Halt} (hp : Plain P F fr) (hF : ∃ fn, P.funcs[fr.fn]? = some fn) (hN : ∀ o n w1, OpOk P F o.op → (execOp fr.eval o).run P w = .ok n w1 → (∃ v, n = .value v) ∨ n = .skip ∨ ∃ f c, n = .enter f c)
    (h : (act P fr).run P w = .halt x w') (hx : HaltOk x) :
    (∃ chain w1, (stepG P main (G fr cs) w).bare = .go (G (fr.raise chain) cs) w1) ∨ ∃ o w1, (stepG P main (G fr cs) w).bare = .ended o w1 := by
  obtain ⟨fn, tmps, todo, defers, mode, kind, round⟩ := fr
  obtain ⟨hm, hk, hd, hr, hok, -⟩ := hp
  dsimp only at hm hk hd hr hok
  subst hk hd hr
  rcases hm with rfl | rfl
  · unfold act at h
    dsimp only at h
    cases todo with
    | nil => cases h
    | cons i k =>
      cases i with
      | code c =>
        simp only [actI] at h
        cases c with
        | cond c a b =>
          simp only [actC] at h
          cases he : Frame.eval { fn := fn, tmps := tmps, todo := .code (.cond c a b) :: k, defers := [], mode := .run, kind := .normal, roundOf := none } c <;> simp only [he] at h <;> first | (cases h; done) | skip
          all_goals exact .inr ⟨_, _, by simp [G, stepG, stepG.exec, he]; exact ⟨rfl, rfl⟩⟩
        | exit id =>
          simp only [actC] at h
          cases he : exitTo id k <;> simp only [he] at h <;> first | (cases h; done) | skip
          exact .inr ⟨_, _, by simp [G, stepG, stepG.exec, he]; exact ⟨rfl, rfl⟩⟩
        | goto l =>
          simp only [actC] at h
          cases he : gotoIn l k <;> simp only [he] at h <;> first | (cases h; done) | skip
          exact .inr ⟨_, _, by simp [G, stepG, stepG.exec, he]; exact ⟨rfl, rfl⟩⟩
        | region id ops draw =>
          simp only [actC] at h
          cases draw with
          | false => cases h
          | true => simp [Sem.run, Question.forced, pure] at h
        | rangeFunc f p a b => exact False.elim (hok _ (List.mem_cons_self ..))
        | refuse s => exact False.elim (hok _ (List.mem_cons_self ..))
        | _ => cases h
      | inBlock id => cases h
      | inScope c => cases h
      | inLoop c => cases h
      | inRegion ops l =>
        cases l with
        | nil => cases h
        | cons j rest =>
          simp only [actI] at h
          cases ho : ops[j]? with
          | none => simp only [ho] at h; cases h
          | some o =>
            simp only [ho] at h
            cases hw : Region.wanted o (yielded ops tmps) with
            | false => simp only [hw] at h; cases h
            | true =>
              simp only [hw, if_true] at h
              cases he : (execOp (Frame.eval { fn := fn, tmps := tmps, todo := .inRegion ops (j :: rest) :: k, defers := [], mode := .run, kind := .normal, roundOf := none }) o).run P w with
              | halt y w1 =>
                rw [Sem.run_bind, he] at h
                simp only [Result.andThen, Result.halt.injEq] at h
                obtain ⟨rfl, rfl⟩ := h
                cases y with
                | panic v => exact .inl ⟨_, _, by simp [G, stepG, stepG.exec, stepG.oper, stepG.apply, Frame.oper?, ho, hw, he]; exact ⟨rfl, rfl⟩⟩
                | stuck s => exact .inr ⟨_, _, by simp [G, stepG, stepG.exec, stepG.oper, stepG.apply, Frame.oper?, ho, hw, he]; exact ⟨rfl, rfl⟩⟩
                | unsupported u =>
                  cases u with
                  | initOrder g => exact hx.elim
                  | _ => exact .inr ⟨_, _, by simp [G, stepG, stepG.exec, stepG.oper, stepG.apply, Frame.oper?, ho, hw, he]; exact ⟨rfl, rfl⟩⟩
                | _ => exact hx.elim
              | ok n w1 =>
                rw [Sem.run_bind, he] at h
                simp only [Result.andThen] at h
                rcases hN o n w1 (hok _ (List.mem_cons_self ..) o (Array.mem_of_getElem? ho)) he with ⟨v, rfl⟩ | rfl | ⟨f, c, rfl⟩ <;> cases h
      | _ => exact False.elim (hok _ (List.mem_cons_self ..))
  · unfold act at h
    dsimp only at h
    cases hf : P.funcs[fn]? with
    | none => obtain ⟨f, hF⟩ := hF; rw [hf] at hF; cases hF
    | some f =>
      simp only [hf] at h
      cases he : (results f tmps).run P w with
      | ok v w1 => rw [Sem.run_bind, he] at h; cases h
      | halt y w1 =>
        cases y <;> exact .inr ⟨_, _, by simp [G, stepG, unwind, hf, he]; exact ⟨rfl, rfl⟩⟩

end
end Go.Proofs.Ytgpplekabohneaa.Co
