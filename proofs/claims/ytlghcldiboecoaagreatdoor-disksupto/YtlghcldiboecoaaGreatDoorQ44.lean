/- The readers of the caller's world: the program's and the document's. -/
import Derived.Test.YtlghcldiboecoaaGreatDoorQ43
import Derived.Test.YtlghcldiboecoaaGreatDoorQ42
set_option linter.unusedVariables false
namespace Go.Proofs.YtlghcldiboecoaaGreatDoor
open Go.RowKit

/-- Two readers of one number: where they lie, what they hold. -/
structure Rd where
  R : Nat
  Q : Nat
  pv : Value
  av : Value
  p : List UInt8
  all : List UInt8
  tl : Bool
  told : Nat

/-- Their blocks. -/
def Rd.blk (r : Rd) (g : Nat) : Prop := g = r.R ∨ g = r.Q ∨ r.pv.ownBlock = some g ∨ r.av.ownBlock = some g

structure Rd.At (r : Rd) (v : World) (tot : Nat) : Prop where
  rR : v.heap[r.R]? = some (.cells #[r.pv, .bool r.tl] 237)
  part : Go.Pair.RowIs v 5 (Cu.bc r.p) r.pv
  rQ : v.heap[r.Q]? = some (.cells #[r.av, .int .i64 r.told, .bool r.tl] 177)
  all : v.ownsRow 0 5 1 r.av r.all.length (bcells r.all)
  tw : Twins r.all r.p r.tl r.told
  len : r.all.length ≤ tot
  apart : ∀ g, r.pv.ownBlock = some g → r.av.ownBlock ≠ some g

theorem Rd.At.keep {r : Rd} {v v' : World} {tot tot' : Nat} (h : r.At v tot) (hs : ∀ g cs t, r.blk g → v.heap[g]? = some (.cells cs t) → t = 237 ∨ t = 177 ∨ t = 5 → v'.heap[g]? = v.heap[g]?) (ht : tot ≤ tot') : r.At v' tot' := by
  refine ⟨(hs _ _ _ (.inl rfl) h.rR (.inl rfl)).trans h.rR, ?_, (hs _ _ _ (.inr (.inl rfl)) h.rQ (.inr (.inl rfl))).trans h.rQ, own_sameS h.all (fun g cs hg hc => hs g cs _ (.inr (.inr (.inr hg))) hc (.inr (.inr rfl))), h.tw, Nat.le_trans h.len ht, h.apart⟩
  rcases h.part with h0 | ⟨q, c, cells, h1, h2, h3, h4⟩
  · exact .inl h0
  · exact .inr ⟨q, c, cells, h1, h2, (hs q _ _ (.inr (.inr (.inl (by rw [h1]; rfl)))) h3 (.inr (.inr rfl))).trans h3, h4⟩

theorem Rd.At.type {r : Rd} {v : World} {tot g : Nat} {cs : Array Value} {t : TypeId} (h : r.At v tot) (hg : r.blk g) (hc : v.heap[g]? = some (.cells cs t)) : t = 237 ∨ t = 177 ∨ t = 5 := by
  rcases hg with rfl | rfl | hg | hg
  · rw [h.rR] at hc; cases hc; exact .inl rfl
  · rw [h.rQ] at hc; cases hc; exact .inr (.inl rfl)
  · obtain ⟨c1, t1⟩ := own_type (Go.Pair.RowIs.row h.part) hg
    rw [hc] at t1; cases t1; exact .inr (.inr rfl)
  · obtain ⟨c1, t1⟩ := own_type h.all hg
    rw [hc] at t1; cases t1; exact .inr (.inr rfl)

theorem Rd.At.lt {r : Rd} {v : World} {tot g : Nat} (h : r.At v tot) (hg : r.blk g) : g < v.heap.size := by
  rcases hg with rfl | rfl | hg | hg
  · exact ltOf h.rR
  · exact ltOf h.rQ
  · obtain ⟨c1, t1⟩ := own_type (Go.Pair.RowIs.row h.part) hg
    exact ltOf t1
  · obtain ⟨c1, t1⟩ := own_type h.all hg
    exact ltOf t1

/-- The list of the readers. -/
def rcells (rds : List Rd) : List Value := rds.flatMap fun r => [.pointer (some ⟨r.R, 0, none⟩), .pointer (some ⟨r.Q, 0, none⟩)]

theorem rcells_get {rds : List Rd} {i : Nat} {r : Rd} (h : rds[i]? = some r) : (rcells rds)[i * 2]? = some (.pointer (some ⟨r.R, 0, none⟩)) ∧ (rcells rds)[i * 2 + 1]? = some (.pointer (some ⟨r.Q, 0, none⟩)) := by
  induction rds generalizing i with
  | nil => simp at h
  | cons x l ih =>
    cases i with
    | zero => simp at h; subst h; simp [rcells]
    | succ i =>
      have := ih (i := i) (by simpa using h)
      rw [show (i + 1) * 2 = i * 2 + 2 by omega]
      simpa [rcells] using this

theorem rcells_add (rds : List Rd) (r : Rd) : rcells (rds ++ [r]) = rcells rds ++ [.pointer (some ⟨r.R, 0, none⟩), .pointer (some ⟨r.Q, 0, none⟩)] := by simp [rcells]
theorem rcells_set {rds : List Rd} {i : Nat} {r r' : Rd} (h : rds[i]? = some r) (h1 : r'.R = r.R) (h2 : r'.Q = r.Q) : rcells (rds.set i r') = rcells rds := by
  induction rds generalizing i with
  | nil => rfl
  | cons x l ih =>
    cases i with
    | zero => simp at h; subst h; simp [rcells, h1, h2]
    | succ i =>
      have := ih (i := i) (by simpa using h)
      simp only [rcells, List.set_cons_succ, List.flatMap_cons] at *
      rw [this]

/-- The caller's world, its books, its readers. -/
structure Rw (v : World) (L WB : Nat) (S : Nat → Prop) (x0 x1 : Value) (ra : Option Addr) (rc : Nat) (rds : List Rd) (tot N M : Nat) : Prop where
  bk : ∃ ba bc flat da dc flad, Bc v WB L S x0 x1 (.slice ra rds.length rc) (.slice none 0 0) N ba bc flat M da dc flad
  row : v.ownsRow L 179 2 (.slice ra rds.length rc) rds.length (rcells rds)
  rd : ∀ (i : Nat) (r : Rd), rds[i]? = some r → r.At v tot
  dis : ∀ (i j : Nat) (r s : Rd), rds[i]? = some r → rds[j]? = some s → i ≠ j → ∀ g, r.blk g → ¬ s.blk g
  sep : ∀ (i : Nat) (r : Rd), rds[i]? = some r → ∀ g, r.blk g → ¬ S g ∧ L ≤ g
  sL : ∀ g, S g → L ≤ g
  wl : WB < L

/-- What lies below stays. -/
def Los (L WB : Nat) (v v' : World) : Prop := v.heap.size ≤ v'.heap.size ∧ ∀ i, i < L → i ≠ WB → v'.heap[i]? = v.heap[i]?

theorem Los.trans {L WB : Nat} {v v' v'' : World} (h : Los L WB v v') (h' : Los L WB v' v'') : Los L WB v v'' := ⟨Nat.le_trans h.1 h'.1, fun i hi hn => (h'.2 i hi hn).trans (h.2 i hi hn)⟩
section
variable {v v' : World} {L WB : Nat} {S : Nat → Prop} {x0 x1 : Value} {ra : Option Addr} {rc : Nat} {rds : List Rd} {tot tot' N M : Nat}

theorem Rw.le (h : Rw v L WB S x0 x1 ra rc rds tot N M) : L ≤ v.heap.size := by
  obtain ⟨_, _, _, _, _, _, hb⟩ := h.bk
  exact hb.le

theorem Rw.keep (h : Rw v L WB S x0 x1 ra rc rds tot N M) (hsz : v.heap.size ≤ v'.heap.size) (ht : tot ≤ tot') (hs : ∀ i cs t, v.heap[i]? = some (.cells cs t) → i = WB ∨ L ≤ i → v'.heap[i]? = v.heap[i]?) : Rw v' L WB S x0 x1 ra rc rds tot' N M := by
  obtain ⟨ba, bc, flat, da, dc, flad, hb⟩ := h.bk
  refine ⟨⟨ba, bc, flat, da, dc, flad, ?_⟩, own_sameS h.row (fun g cs hg ht => hs g cs _ ht (.inr (h.row.lt g hg).1)), fun i r hr => (h.rd i r hr).keep (fun g cs t hg hc _ => hs g cs t hc (.inr (h.sep i r hr g hg).2)) ht, h.dis, h.sep, h.sL, h.wl⟩
  refine ⟨(hs _ _ _ hb.blk (.inl rfl)).trans hb.blk, own_sameS hb.row (fun g cs hg ht => hs g cs _ ht (.inr (hb.row.lt g hg).1)), own_sameS hb.rod (fun g cs hg ht => hs g cs _ ht (.inr (hb.rod.lt g hg).1)), Nat.le_trans hb.le hsz, fun i hi => ?_, fun i hi => ?_, fun g hg => Nat.lt_of_lt_of_le (hb.sl g hg) hsz⟩
  · have := (hb.ent i hi).keep (W' := v') (S' := S) (more := []) (fun g cs hg hc => hs g cs 5 hc (.inr (h.sL g hg))) (fun _ h => h)
    rwa [List.append_nil] at this
  · have := (hb.end' i hi).keep (W' := v') (S' := S) (more := []) (fun g cs hg hc => hs g cs 57 hc (.inr (h.sL g hg))) (fun _ h => h)
    rwa [List.append_nil] at this

theorem Rw.below (h : Rw v L WB S x0 x1 ra rc rds tot N M) (hb : Below v.heap.size v v') : Rw v' L WB S x0 x1 ra rc rds tot N M :=
  h.keep hb.size (Nat.le_refl _) (fun i cs t hi _ => hb.block i (ltOf hi))

theorem Rw.heap (h : Rw v L WB S x0 x1 ra rc rds tot N M) (he : v'.heap = v.heap) : Rw v' L WB S x0 x1 ra rc rds tot N M :=
  h.keep (by rw [he]; exact Nat.le_refl _) (Nat.le_refl _) (fun i cs t hi _ => by rw [he])

theorem Below.los (h : Below v.heap.size v v') (hL : L ≤ v.heap.size) : Los L WB v v' := ⟨h.size, fun i hi _ => h.block i (Nat.lt_of_lt_of_le hi hL)⟩

theorem Rw.whole (h : Rw v L WB S x0 x1 ra rc rds tot N M) (hN : N ≤ 1000000000) (hM : M ≤ 1000000000) :
    Calls Tryz.prog 27 #[.pointer (some ⟨WB, 4, none⟩)] v fun e v' => e = .returned (.bool true) ∧ Rw v' L WB S x0 x1 ra rc rds tot N M ∧ Los L WB v v' := by
  obtain ⟨ba, bc, flat, da, dc, flad, hb⟩ := h.bk
  refine (hb.whole (by omega) hM).mono ?_
  rintro e v' ⟨rfl, hb'⟩
  exact ⟨rfl, h.below hb', Below.los hb' h.le⟩

end

section
variable {v v' : World} {L WB : Nat} {S S' : Nat → Prop} {x0 x1 : Value} {ra : Option Addr} {rc : Nat} {rds : List Rd} {tot tot' N M N' M' : Nat} {ba : Option Addr} {bc : Nat} {flat : List Value} {da : Option Addr} {dc : Nat} {flad : List Value}

/-- The books went on; the readers stand. -/
theorem Rw.go (h : Rw v L WB S x0 x1 ra rc rds tot N M) (hb' : Bc v' WB L S' x0 x1 (.slice ra rds.length rc) (.slice none 0 0) N' ba bc flat M' da dc flad)
    (hs : ∀ i cs t, v.heap[i]? = some (.cells cs t) → L ≤ i → t = 179 ∨ ((t = 237 ∨ t = 177 ∨ t = 5) ∧ ¬ S i ∧ i < v.heap.size ∧ ∃ (j : Nat) (r : Rd), rds[j]? = some r ∧ r.blk i) → v'.heap[i]? = v.heap[i]?) (hnew : ∀ g, S' g → S g ∨ v.heap.size ≤ g) : Rw v' L WB S' x0 x1 ra rc rds tot N' M' := by
  have hL := h.le
  refine ⟨⟨_, _, _, _, _, _, hb'⟩, own_sameS h.row (fun g cs hg ht => hs g cs _ ht (h.row.lt g hg).1 (.inl rfl)), fun i r hr => (h.rd i r hr).keep (fun g cs t hg hc ht => hs g cs t hc (h.sep i r hr g hg).2 (.inr ⟨ht, (h.sep i r hr g hg).1, (h.rd i r hr).lt hg, i, r, hr, hg⟩)) (Nat.le_refl _), h.dis, fun i r hr g hg => ⟨fun hS => ?_, (h.sep i r hr g hg).2⟩, fun g hg => ?_, h.wl⟩
  · rcases hnew g hS with h1 | h1
    · exact (h.sep i r hr g hg).1 h1
    · have := (h.rd i r hr).lt hg
      omega
  · rcases hnew g hg with h1 | h1
    · exact h.sL g h1
    · omega

end
end Go.Proofs.YtlghcldiboecoaaGreatDoor

/- The caller's step: Frame, beside its readers. -/
namespace Go.Proofs.YtlghcldiboecoaaGreatDoor
open Go.RowKit

theorem rw_frame {v : World} {L WB : Nat} {S : Nat → Prop} {x0 x1 : Value} {ra : Option Addr} {rc : Nat} {rds : List Rd} {tot N M : Nat} (h : Rw v L WB S x0 x1 ra rc rds tot N M) (hN : N ≤ 1000000000) (a b c : Int) (s t : ByteArray) (hs : s.size ≤ 4000000) :
    Calls Tryz.prog 52 #[.pointer (some ⟨WB, 0, none⟩), opv 3 a b c s t] v fun e v' => e = .returned (.bool true) ∧ (∃ S', Rw v' L WB S' x0 x1 ra rc rds tot (N + 1) M) ∧ Los L WB v v' := by
  have hL := h.le
  have hwl := h.wl
  refine codes_frame v WB a b c s t hs (fun v' => (∃ S', Rw v' L WB S' x0 x1 ra rc rds tot (N + 1) M) ∧ Los L WB v v') ?_
  intro W C oa oc r hr hb hC hCW hop hlent hown
  have hW := h.below hb
  obtain ⟨ba, bc, flat, da, dc, flad, hbk⟩ := h.bk
  have hbW := hbk.below hb
  have hown0 : W.ownsRow 0 5 1 (.slice oa r.length oc) r.length (bcells r) := ⟨hown.1, hown.2.imp id (fun ⟨g, cap, cur, h1, _, h2⟩ => ⟨g, cap, cur, h1, Nat.zero_le _, h2⟩)⟩
  have hoC : ∀ g, (Value.slice oa r.length oc).ownBlock = some g → C ≤ g := fun g hg => (hown.lt g hg).1
  refine (hbW.kb hN _ _ _ (by omega) hown0 (fun g hg hS => ?_)).mono ?_
  · have := hbk.sl g hS
    have := hoC g hg
    omega
  rintro e w8 ⟨rfl, S', ba', bc', flat', hb8, G⟩
  have hop8 := (G.cells hop (by omega) (by decide) (by decide) (fun e => by have := hoC _ e; omega)).trans hop
  have hle8 := (G.cells hlent (by omega) (by decide) (by decide) (fun e => by have := hoC _ e; omega)).trans hlent
  refine ⟨rfl, hop8, (wholeBytes_any w8 s (v.heap.size + 1) hs hle8).mono ?_⟩
  rintro e w9 ⟨rfl, hg⟩
  have hlS : ¬ S' (v.heap.size + 1) := fun hS => by
    rcases G.new _ hS with h1 | h1 | h1
    · have := hbk.sl _ h1; omega
    · have := hoC _ h1; omega
    · omega
  have hsm : ∀ i, i < w8.heap.size → i ≠ v.heap.size + 1 → w9.heap[i]? = w8.heap[i]? := fun i hi hn => hg.block i hi (fun e => hn (by cases e; rfl))
  have hb9 := hb8.keep (W' := w9) hg.size (fun i cs t hi ht => hsm i (ltOf hi) (fun e => by
    rw [e, hle8] at hi
    cases hi
    rcases ht with ht | ht | ht | ht
    · cases ht
    · cases ht
    · cases ht
    · exact hlS (e ▸ ht.1)))
  have hlt : ∀ i, i < v.heap.size → i < w8.heap.size := fun i hi => Nat.lt_of_lt_of_le hi (Nat.le_trans hb.size G.size)
  refine ⟨rfl, ⟨S', h.go hb9 (fun i cs t hi hLi ht => ?_) (fun g hg => ?_)⟩, ⟨Nat.le_trans hb.size (Nat.le_trans G.size hg.size), fun i hi hn => ?_⟩⟩
  · have hiW := (hb.block i (ltOf hi)).trans hi
    rw [hsm i (hlt i (ltOf hi)) (by have := ltOf hi; omega), G.cells hiW (by omega) (by rcases ht with rfl | ⟨rfl | rfl | rfl, _⟩ <;> decide) (by rcases ht with rfl | ⟨rfl | rfl | rfl, _⟩ <;> decide) (fun e => by have := hoC _ e; have := ltOf hi; omega), hiW, hi]
  · rcases G.new g hg with h1 | h1 | h1
    · exact .inl h1
    · exact .inr (by have := hoC g h1; omega)
    · exact .inr (Nat.le_trans hb.size h1)
  · rw [hsm i (hlt i (by omega)) (by omega), G.same i (by have := hb.size; omega) hn (.inl hi) (fun e => by have := hoC _ e; omega)]
    exact hb.block i (by omega)

end Go.Proofs.YtlghcldiboecoaaGreatDoor

/- Words for the walk beside leavers. -/
namespace Go.Proofs.YtlghcldiboecoaaGreatDoor
open Go Go.Pair

section
variable {Post : Value → World → Prop} {fn : FuncId} {Q : Exit → Act → World → (Loc → Prop) → Prop} {a : Act} {w : World} {Shun : Loc → Prop}

/-- A lone piece, and what stands behind it. -/
theorem wpE_then (hfn : ∃ f, Tryz.prog.funcs[fn]? = some f) {x y : Code} (hc : codeOk Tryz.prog (Lr.contains ·) x = true) (hS : ShunT 271 Shun w) (had : a.defers = []) (ids : List Nat)
    (H : ∀ v, Sim (BsOf Shun) w v → ∀ Ql : Exit → Act → World → Prop,
      (∀ a' v', (∀ w', Kept (BsOf Shun) w w' → Sim (BsOf Shun) w' v' → wpE Tryz.prog Post fn y Q a' w' Shun) → Ql .normal a' v') →
      (∀ a' v', (∀ w', Kept (BsOf Shun) w w' → Sim (BsOf Shun) w' v' → Q .ret a' w' Shun) → Ql .ret a' v') →
      (∀ id a' v', id ∈ ids → (∀ w', Kept (BsOf Shun) w w' → Sim (BsOf Shun) w' v' → Q (.exit id) a' w' Shun) → Ql (.exit id) a' v') →
      x.wp Tryz.prog Ql a v) : wpE Tryz.prog Post fn (.seq x y) Q a w Shun := by
  refine wpE_seq (lone_code hfn hc hS had ids (Ql := fun e a' v' => (e = .normal ∧ ∀ w', Kept (BsOf Shun) w w' → Sim (BsOf Shun) w' v' → wpE Tryz.prog Post fn y Q a' w' Shun) ∨ (e = .ret ∧ ∀ w', Kept (BsOf Shun) w w' → Sim (BsOf Shun) w' v' → Q .ret a' w' Shun) ∨ ∃ id, id ∈ ids ∧ e = .exit id ∧ ∀ w', Kept (BsOf Shun) w w' → Sim (BsOf Shun) w' v' → Q (.exit id) a' w' Shun) ?_
    (fun v hv => H v hv _ (fun a' v' h => .inl ⟨rfl, h⟩) (fun a' v' h => .inr (.inl ⟨rfl, h⟩)) (fun id a' v' hi h => .inr (.inr ⟨id, hi, rfl, h⟩))) ?_)
  · rintro e a' v' (h | h | ⟨id, hi, h, _⟩)
    · exact .inl h.1
    · exact .inr (.inl h.1)
    · exact .inr (.inr ⟨id, hi, h⟩)
  · rintro e a' w' v' hk hs (⟨rfl, h⟩ | ⟨rfl, h⟩ | ⟨id, hi, rfl, h⟩)
    · exact h w' hk hs
    · exact h w' hk hs
    · exact h w' hk hs

/-- The last piece. -/
theorem wpE_fin (hfn : ∃ f, Tryz.prog.funcs[fn]? = some f) {x : Code} (hc : codeOk Tryz.prog (Lr.contains ·) x = true) (hS : ShunT 271 Shun w) (had : a.defers = []) (ids : List Nat)
    (H : ∀ v, Sim (BsOf Shun) w v → ∀ Ql : Exit → Act → World → Prop,
      (∀ a' v', (∀ w', Kept (BsOf Shun) w w' → Sim (BsOf Shun) w' v' → Q .normal a' w' Shun) → Ql .normal a' v') →
      (∀ a' v', (∀ w', Kept (BsOf Shun) w w' → Sim (BsOf Shun) w' v' → Q .ret a' w' Shun) → Ql .ret a' v') →
      (∀ id a' v', id ∈ ids → (∀ w', Kept (BsOf Shun) w w' → Sim (BsOf Shun) w' v' → Q (.exit id) a' w' Shun) → Ql (.exit id) a' v') →
      x.wp Tryz.prog Ql a v) : wpE Tryz.prog Post fn x Q a w Shun := by
  refine lone_code hfn hc hS had ids (Ql := fun e a' v' => (e = .normal ∧ ∀ w', Kept (BsOf Shun) w w' → Sim (BsOf Shun) w' v' → Q .normal a' w' Shun) ∨ (e = .ret ∧ ∀ w', Kept (BsOf Shun) w w' → Sim (BsOf Shun) w' v' → Q .ret a' w' Shun) ∨ ∃ id, id ∈ ids ∧ e = .exit id ∧ ∀ w', Kept (BsOf Shun) w w' → Sim (BsOf Shun) w' v' → Q (.exit id) a' w' Shun) ?_
    (fun v hv => H v hv _ (fun a' v' h => .inl ⟨rfl, h⟩) (fun a' v' h => .inr (.inl ⟨rfl, h⟩)) (fun id a' v' hi h => .inr (.inr ⟨id, hi, rfl, h⟩))) ?_
  · rintro e a' v' (h | h | ⟨id, hi, h, _⟩)
    · exact .inl h.1
    · exact .inr (.inl h.1)
    · exact .inr (.inr ⟨id, hi, h⟩)
  · rintro e a' w' v' hk hs (⟨rfl, h⟩ | ⟨rfl, h⟩ | ⟨id, hi, rfl, h⟩)
    · exact h w' hk hs
    · exact h w' hk hs
    · exact h w' hk hs

/-- One operation of a region. -/
theorem opsE_one {ops : Array Oper} {i : Nat} {l : List Nat} {o : Oper} (ho : ops[i]? = some o) (hw : Region.wanted o (yielded ops a.tmps) = true) (hok : opOk Tryz.prog (Lr.contains ·) o = true) (hS : ShunT 271 Shun w)
    (H : ∀ v, Sim (BsOf Shun) w v → ∃ x, (execOp a.eval o).run Tryz.prog v = .ok (.value x) v ∧ ∀ w', Kept (BsOf Shun) w w' → Sim (BsOf Shun) w' v → opsE Tryz.prog Post fn ops l Q (a.put o.dst x) w' Shun) : opsE Tryz.prog Post fn ops (i :: l) Q a w Shun := by
  have hL : ∀ f, (Lr.contains f) = true → ∃ fn c, Tryz.prog.funcs[f]? = some fn ∧ (fn.name == "runtime.NumGoroutine") = false ∧ fn.body = some c := fun f hf => by
    obtain ⟨fn, c, h1, h2, h3, _⟩ := okLr f (by simpa using hf)
    exact ⟨fn, c, h1, h2, h3⟩
  refine opsE_op (S := (· ∈ Lr)) ho hw (okO_of (S := (Lr.contains ·)) hL (fun f hf => by simpa using hf) hok) (fun a h => shun_cell a h) hS.obj hS.cells (R := fun x v' => ∀ w', Kept (BsOf Shun) w w' → Sim (BsOf Shun) w' v' → opsE Tryz.prog Post fn ops l Q (a.put o.dst x) w' Shun)
    (fun v hv => ?_) (fun x w' v' hk hs h => h w' hk hs)
  obtain ⟨x, h1, h2⟩ := H v hv
  exact ⟨x, v, .inl h1, h2⟩

end

/-- What the lone memory keeps, the real one keeps. -/
theorem Sim.stay {Bs : Nat → Prop} {w w' v v' : World} (hk : Kept Bs w w') (h : Sim Bs w v) (h' : Sim Bs w' v') {i : Nat} (e : v'.heap[i]? = v.heap[i]?) : w'.heap[i]? = w.heap[i]? := by
  rcases h'.like i with ⟨hn, e1, hk1⟩ | ⟨hb, c, t, fz, hw, hv⟩ | ⟨hn, ⟨o, ho, hno⟩, hv⟩
  · rcases h.like i with ⟨_, e2, _⟩ | ⟨hb, _⟩ | ⟨_, ⟨o, ho, hno⟩, hv⟩
    · rw [← e1, e, e2]
    · exact absurd hb hn
    · have hd : w'.heap[i]? = some dead := by rw [← e1, e, hv]
      exact absurd (hk1 dead hd) (fun h => h)
  · exact hk.keep i hb
  · rw [ho]
    exact (hk.far i o ho hno).symm

end Go.Proofs.YtlghcldiboecoaaGreatDoor

/- One reader more. -/
namespace Go.Proofs.YtlghcldiboecoaaGreatDoor
open Go.RowKit

/-- A new one. -/
def rd0 (R Q : Nat) : Rd := ⟨R, Q, .slice none 0 0, .slice none 0 0, [], [], false, 0⟩

theorem Rw.newRd {v v4 w5 : World} {L WB : Nat} {S : Nat → Prop} {x0 x1 : Value} {ra : Option Addr} {rc : Nat} {rds : List Rd} {tot N M R Q : Nat} {V' : Value} (h : Rw v L WB S x0 x1 ra rc rds tot N M) (hb : Below v.heap.size v v4)
    (hR : v4.heap[R]? = some (.cells #[.slice none 0 0, .bool false] 237)) (hQ : v4.heap[Q]? = some (.cells #[.slice none 0 0, .int .i64 0, .bool false] 177)) (hRv : v.heap.size ≤ R) (hQv : v.heap.size ≤ Q)
    (hap : AppRes v4 w5 L 179 2 (.slice ra rds.length rc) V' rds.length 1 (rcells rds) [.pointer (some ⟨R, 0, none⟩), .pointer (some ⟨Q, 0, none⟩)]) :
    (∃ ra' rc', Rw (w5.setCell ⟨WB, 2, none⟩ V') L WB S x0 x1 ra' rc' (rds ++ [rd0 R Q]) tot N M) ∧ Los L WB v (w5.setCell ⟨WB, 2, none⟩ V') := by
  have hL := h.le
  have hwl := h.wl
  obtain ⟨ba, bc, flat, da, dc, flad, hbk⟩ := h.bk
  have h4 := h.below hb
  have hb4 := hbk.below hb
  obtain ⟨ra', rc', hV⟩ := own_shapeZ hap.1
  have hsz : v4.heap.size ≤ w5.heap.size := by
    rcases hap.2.2 with ⟨_, g⟩ | ⟨_, g⟩
    · exact g.size
    · exact g.size
  have hrow : ∀ g cs t, (Value.slice ra rds.length rc).ownBlock = some g → v4.heap[g]? = some (.cells cs t) → t = 179 := fun g cs t hg ht => by
    obtain ⟨c1, t1⟩ := own_type h4.row hg
    rw [ht] at t1; cases t1; rfl
  have hsame : ∀ i, i < v4.heap.size → (i < L ∨ ∀ cs t, v4.heap[i]? = some (.cells cs t) → t ≠ 179) → w5.heap[i]? = v4.heap[i]? := fun i hi ht => by
    rcases hap.2.2 with ⟨_, g⟩ | ⟨_, g⟩
    · refine g.block i hi (fun e => ?_)
      rcases ht with ht | ht
      · have := (h4.row.lt i e.symm).1
        omega
      · obtain ⟨c1, t1⟩ := own_type h4.row e.symm
        exact ht _ _ t1 rfl
    · exact g.block i hi
  have hcell : ∀ (i : Nat) cs t, v4.heap[i]? = some (.cells cs t) → t ≠ 179 → w5.heap[i]? = some (.cells cs t) := fun i cs t hi ht => (hsame i (ltOf hi) (.inr fun cs' t' h' => by rw [hi] at h'; cases h'; exact ht)).trans hi
  have hoth : ∀ i, i ≠ WB → (w5.setCell ⟨WB, 2, none⟩ V').heap[i]? = w5.heap[i]? := fun i hi => heap_setCell_other _ _ _ _ hi
  have h5 : (w5.setCell ⟨WB, 2, none⟩ V').heap.size = w5.heap.size := by simp
  have hwb : ∀ (i : Nat) cs t, v4.heap[i]? = some (.cells cs t) → t ≠ 73 → i ≠ WB := fun i cs t hi ht e => by
    have := hb4.blk
    rw [← e, hi] at this
    cases this
    exact ht rfl
  have hgo : ∀ (i : Nat) cs t, v4.heap[i]? = some (.cells cs t) → t ≠ 73 → t ≠ 179 → (w5.setCell ⟨WB, 2, none⟩ V').heap[i]? = v4.heap[i]? := fun i cs t hi h1 h2 => (hoth i (hwb i cs t hi h1)).trans ((hcell i cs t hi h2).trans hi.symm)
  have hnew : (rd0 R Q).At (w5.setCell ⟨WB, 2, none⟩ V') tot := by
    refine ⟨(hgo R _ _ hR (by decide) (by decide)).trans hR, .inl ⟨rfl, rfl⟩, (hgo Q _ _ hQ (by decide) (by decide)).trans hQ, World.ownsRow_nil _ _ _ _, Twins.new, Nat.zero_le _, fun g hg => by cases hg⟩
  have hold : ∀ (i : Nat) (r : Rd), rds[i]? = some r → r.At (w5.setCell ⟨WB, 2, none⟩ V') tot := fun i r hr => (h4.rd i r hr).keep (fun g cs t hg hc ht => hgo g cs t hc (by rcases ht with rfl | rfl | rfl <;> decide) (by rcases ht with rfl | rfl | rfl <;> decide)) (Nat.le_refl _)
  have hget : ∀ (i : Nat) (r : Rd), (rds ++ [rd0 R Q])[i]? = some r → rds[i]? = some r ∨ (i = rds.length ∧ r = rd0 R Q) := fun i r hr => by
    by_cases hi : i < rds.length
    · rw [List.getElem?_append_left hi] at hr; exact .inl hr
    · rw [List.getElem?_append_right (by omega)] at hr
      have : i - rds.length = 0 := by
        have := (List.getElem?_eq_some_iff.1 hr).1
        simpa using this
      rw [this] at hr
      simp at hr
      exact .inr ⟨by omega, hr.symm⟩
  have hblk0 : ∀ g, (rd0 R Q).blk g → v.heap.size ≤ g := fun g hg => by
    rcases hg with rfl | rfl | hg | hg
    · exact hRv
    · exact hQv
    · cases hg
    · cases hg
  have hblk : ∀ (i : Nat) (r : Rd), rds[i]? = some r → ∀ g, r.blk g → g < v.heap.size := fun i r hr g hg => (h.rd i r hr).lt hg
  have hown := hap.1
  rw [hV] at hown
  refine ⟨⟨ra', rc', ⟨⟨ba, bc, flat, da, dc, flad, ?_⟩, ?_, fun i r hr => ?_, fun i j r s hr hs hij g hg hg' => ?_, fun i r hr g hg => ?_, h.sL, hwl⟩⟩, ⟨by have := hb.size; omega, fun i hi hn => ?_⟩⟩
  · refine ⟨?_, own_sameS hb4.row (fun g cs hg ht => hgo g cs _ ht (by decide) (by decide)), own_sameS hb4.rod (fun g cs hg ht => hgo g cs _ ht (by decide) (by decide)), by have := hb4.le; omega, fun i hi => ?_, fun i hi => ?_, fun g hg => by have := hb4.sl g hg; omega⟩
    · have := heap_setCell_same w5 WB 2 _ 73 V' (hcell WB _ _ hb4.blk (by decide))
      rw [hV, List.length_append]
      rw [hV] at this
      exact this
    · have := (hb4.ent i hi).keep (W' := w5.setCell ⟨WB, 2, none⟩ V') (S' := S) (more := []) (fun g cs hg hc => hgo g cs _ hc (by decide) (by decide)) (fun _ h => h)
      rwa [List.append_nil] at this
    · have := (hb4.end' i hi).keep (W' := w5.setCell ⟨WB, 2, none⟩ V') (S' := S) (more := []) (fun g cs hg hc => hgo g cs _ hc (by decide) (by decide)) (fun _ h => h)
      rwa [List.append_nil] at this
  · rw [rcells_add, List.length_append]
    refine own_setZ hown (fun e => ?_) _
    have := (hown.lt WB e).1
    omega
  · rcases hget i r hr with hr | ⟨_, rfl⟩
    · exact hold i r hr
    · exact hnew
  · rcases hget i r hr with hr | ⟨hi, rfl⟩ <;> rcases hget j s hs with hs | ⟨hj, rfl⟩
    · exact h.dis i j r s hr hs hij g hg hg'
    · have := hblk i r hr g hg; have := hblk0 g hg'; omega
    · have := hblk j s hs g hg'; have := hblk0 g hg; omega
    · omega
  · rcases hget i r hr with hr | ⟨hi, rfl⟩
    · exact h.sep i r hr g hg
    · have := hblk0 g hg
      exact ⟨fun hS => by have := hbk.sl g hS; omega, by omega⟩
  · rw [hoth i hn, hsame i (by have := hb.size; omega) (.inl hi)]
    exact hb.block i (by omega)

end Go.Proofs.YtlghcldiboecoaaGreatDoor

/- A reader was fed: what stands, in the lone memory. -/
namespace Go.Proofs.YtlghcldiboecoaaGreatDoor
open Go.RowKit Go.Pair

theorem shunT_of {Shun : Loc → Prop} {w : World} (h : Cu.ShunW Shun w) : ShunT 271 Shun w := fun l hl => by
  obtain ⟨a, e, o, h1, h2⟩ := h l hl
  refine ⟨a, e, ?_⟩
  cases o with
  | cells c t fz => simp [Go.Pair.kindOf] at h2; subst h2; exact ⟨c, fz, h1⟩
  | _ => simp [Go.Pair.kindOf] at h2

theorem shunW_of {Shun : Loc → Prop} {w : World} (h : ShunT 271 Shun w) : Cu.ShunW Shun w := fun l hl => by
  obtain ⟨a, e, c, fz, h1⟩ := h l hl
  exact ⟨a, e, _, h1, rfl⟩

/-- What Feed left, in the lone memory. -/
structure Fd (v1 v2 : World) (r : Rd) (bodies : List (List UInt8)) (q : List UInt8) (t : Bool) (pv' : Value) (sent : List (List UInt8 × Value)) (lv : Value) : Prop where
  size : v1.heap.size ≤ v2.heap.size
  rR : v2.heap[r.R]? = some (.cells #[pv', .bool t] 237)
  part : RowIs v2 5 (Cu.bc q) pv'
  own : ∀ g, pv'.ownBlock = some g → r.pv.ownBlock = some g ∨ v1.heap.size ≤ g
  told : sent.map (·.1) = bodies
  list : RowIs v2 57 (sent.map (·.2)) lv
  lown : ∀ g, lv.ownBlock = some g → v1.heap.size ≤ g
  msg : ∀ x ∈ sent, ∃ g, v1.heap.size ≤ g ∧ x.2 = .slice (some ⟨g, 0, none⟩) x.1.length x.1.length ∧ v2.heap[g]? = some (.cells (Cu.bc x.1).toArray 5) ∧ pv'.ownBlock ≠ some g
  keep : ∀ (i : Nat) cs t, v1.heap[i]? = some (.cells cs t) → t ≠ 271 → i ≠ r.R → r.pv.ownBlock ≠ some i → v2.heap[i]? = v1.heap[i]?
  dis : Cu.Dis sent

theorem Fd.heap {v1 v2 v2' : World} {r : Rd} {bodies : List (List UInt8)} {q : List UInt8} {t : Bool} {pv' : Value} {sent : List (List UInt8 × Value)} {lv : Value} (h : Fd v1 v2 r bodies q t pv' sent lv) (e : v2'.heap = v2.heap) : Fd v1 v2' r bodies q t pv' sent lv := by
  refine ⟨by rw [e]; exact h.size, by rw [e]; exact h.rR, ?_, h.own, h.told, ?_, h.lown, fun x hx => ?_, fun i cs t hi h1 h2 h3 => by rw [e]; exact h.keep i cs t hi h1 h2 h3, h.dis⟩
  · rcases h.part with h0 | ⟨q, c, cells, h1, h2, h3, h4⟩
    · exact .inl h0
    · exact .inr ⟨q, c, cells, h1, h2, by rw [e]; exact h3, h4⟩
  · rcases h.list with h0 | ⟨q, c, cells, h1, h2, h3, h4⟩
    · exact .inl h0
    · exact .inr ⟨q, c, cells, h1, h2, by rw [e]; exact h3, h4⟩
  · obtain ⟨g, k1, k2, k3, k4⟩ := h.msg x hx
    exact ⟨g, k1, k2, by rw [e]; exact k3, k4⟩

theorem lone_row {Shun : Loc → Prop} {w v : World} {e : TypeId} {xs : List Value} {x : Value} (h : Sim (BsOf Shun) w v) (hS : ShunT 271 Shun w) (he : e ≠ 271) (hr : RowIs w e xs x) : RowIs v e xs x := by
  rcases hr with h0 | ⟨q, c, cells, h1, h2, h3, h4⟩
  · exact .inl h0
  · exact .inr ⟨q, c, cells, h1, h2, h.lone hS h3 he, h4⟩

theorem real_row {Shun : Loc → Prop} {w v : World} {e : TypeId} {xs : List Value} {x : Value} (h : Sim (BsOf Shun) w v) (hS : ShunT 271 Shun w) (he : e ≠ 271) (hr : RowIs v e xs x) : RowIs w e xs x := by
  rcases hr with h0 | ⟨q, c, cells, h1, h2, h3, h4⟩
  · exact .inl h0
  · exact .inr ⟨q, c, cells, h1, h2, h.real hS h3 he, h4⟩

theorem fed_lone {Shun Shun' : Loc → Prop} {w1 w2 v1 v2 : World} {r : Rd} {bodies : List (List UInt8)} {q : List UInt8} {t : Bool} {pv' : Value} {sent : List (List UInt8 × Value)} {lv : Value} (hS : ShunT 271 Shun w1) (h1 : Sim (BsOf Shun) w1 v1)
    (hF : Cu.FeedOut w1 r.R r.pv bodies q t pv' sent lv Shun Shun' w2) (h2 : Sim (BsOf Shun') w2 v2) : Fd v1 v2 r bodies q t pv' sent lv := by
  have hS' := shunT_of hF.shun
  have e1 := h1.size
  have e2 := h2.size
  refine ⟨by have := hF.size; omega, h2.lone hS' hF.r (by decide), lone_row h2 hS' (by decide) hF.part, fun g hg => (hF.own g hg).imp id (fun h => by omega), hF.told, lone_row h2 hS' (by decide) hF.list, fun g hg => by have := hF.lown g hg; omega, fun x hx => ?_, fun i cs t hi ht h3 h4 => ?_, hF.dis⟩
  · obtain ⟨g, k1, k2, k3, k4⟩ := hF.msg x hx
    exact ⟨g, by omega, k2, h2.lone hS' k3 (by decide), k4⟩
  · have hw := h1.real hS hi ht
    exact (h2.lone hS' ((hF.keep i (ltOf hw) h3 h4).trans hw) ht).trans hi.symm

/-- Halfway through a step that feeds reader i: the document's is not yet, or is. -/
structure Mdl (v : World) (L WB : Nat) (S : Nat → Prop) (x0 x1 : Value) (ra : Option Addr) (rc : Nat) (rds : List Rd) (tot N M i : Nat) (r : Rd) (q : List UInt8) (t : Bool) (pv' : Value) (sent : List (List UInt8 × Value)) (lv : Value) (b : Nat) (s : ByteArray) (O : Nat) (ob : Array Value) (F : Nat) : Prop where
  bk : ∃ ba bc flat da dc flad, Bc v WB L S x0 x1 (.slice ra rds.length rc) (.slice none 0 0) N ba bc flat M da dc flad
  row : v.ownsRow L 179 2 (.slice ra rds.length rc) rds.length (rcells rds)
  oth : ∀ (j : Nat) (r' : Rd), rds[j]? = some r' → j ≠ i → r'.At v tot
  rR : v.heap[r.R]? = some (.cells #[pv', .bool t] 237)
  part : RowIs v 5 (Cu.bc q) pv'
  lent : v.heap[b]? = some (.cells (lb s 3).toArray 5)
  op : v.heap[O]? = some (.cells ob 76)
  list : RowIs v 57 (sent.map (·.2)) lv
  msg : ∀ x ∈ sent, ∃ g, F ≤ g ∧ x.2 = .slice (some ⟨g, 0, none⟩) x.1.length x.1.length ∧ v.heap[g]? = some (.cells (Cu.bc x.1).toArray 5) ∧ pv'.ownBlock ≠ some g

/-- Where things lie. -/
structure Msl (v0 : World) (S : Nat → Prop) (rds : List Rd) (i : Nat) (r : Rd) (pv' : Value) (sent : List (List UInt8 × Value)) (lv : Value) (b O F : Nat) : Prop where
  hr : rds[i]? = some r
  own : ∀ g, pv'.ownBlock = some g → r.pv.ownBlock = some g ∨ F ≤ g
  lown : ∀ g, lv.ownBlock = some g → F ≤ g
  b0 : v0.heap.size ≤ b
  bF : b < F
  o0 : v0.heap.size ≤ O
  oF : O < F
  dis : Cu.Dis sent

section
variable {v0 v1 v2 v v' : World} {L WB : Nat} {S : Nat → Prop} {x0 x1 : Value} {ra : Option Addr} {rc : Nat} {rds : List Rd} {tot N M i : Nat} {r : Rd} {q : List UInt8} {t : Bool} {pv' : Value} {sent : List (List UInt8 × Value)} {lv : Value} {b : Nat} {s : ByteArray} {O : Nat} {ob : Array Value} {F : Nat}

theorem Mdl.of (h0 : Rw v0 L WB S x0 x1 ra rc rds tot N M) (hr : rds[i]? = some r) (hsz : v0.heap.size ≤ v1.heap.size) (hb : ∀ i, i < v0.heap.size → v1.heap[i]? = v0.heap[i]?) (hlent : v1.heap[b]? = some (.cells (lb s 3).toArray 5)) (hop : v1.heap[O]? = some (.cells ob 76)) (hb0 : v0.heap.size ≤ b) (ho0 : v0.heap.size ≤ O)
    {bodies : List (List UInt8)} (hf : Fd v1 v2 r bodies q t pv' sent lv) : Mdl v2 L WB S x0 x1 ra rc rds tot N M i r q t pv' sent lv b s O ob v1.heap.size ∧ Msl v0 S rds i r pv' sent lv b O v1.heap.size ∧ r.At v1 tot ∧
      v2.heap[r.Q]? = some (.cells #[r.av, .int .i64 r.told, .bool r.tl] 177) ∧ v2.ownsRow 0 5 1 r.av r.all.length (bcells r.all) := by
  have h1 : Rw v1 L WB S x0 x1 ra rc rds tot N M := h0.keep hsz (Nat.le_refl _) (fun i cs t hi _ => hb i (ltOf hi))
  have hA := h1.rd i r hr
  have hA0 := h0.rd i r hr
  obtain ⟨ba, bc, flat, da, dc, flad, hbk⟩ := h1.bk
  have hkeep : ∀ (g : Nat) cs t, v1.heap[g]? = some (.cells cs t) → t ≠ 271 → ¬ r.blk g → v2.heap[g]? = v1.heap[g]? := fun g cs t hg ht hn => hf.keep g cs t hg ht (fun e => hn (.inl e)) (fun e => hn (.inr (.inr (.inl e))))
  have hty : ∀ (g : Nat) cs t, v1.heap[g]? = some (.cells cs t) → t ≠ 237 → t ≠ 177 → t ≠ 5 → ¬ r.blk g := fun g cs t hg h1 h2 h3 hb => by
    rcases hA.type hb hg with h | h | h
    · exact h1 h
    · exact h2 h
    · exact h3 h
  have hnb : ∀ g, v0.heap.size ≤ g → ¬ r.blk g := fun g hg hb => by have := hA0.lt hb; omega
  refine ⟨⟨⟨ba, bc, flat, da, dc, flad, hbk.keep hf.size (fun i cs t hi ht => ?_)⟩, own_sameS h1.row (fun g cs hg ht => hkeep g cs _ ht (by decide) (hty g cs _ ht (by decide) (by decide) (by decide))), fun j r' hj hne => (h1.rd j r' hj).keep (fun g cs t hg hc ht => hkeep g cs t hc (by rcases ht with rfl | rfl | rfl <;> decide) (fun hb => h1.dis j i r' r hj hr hne g hg hb)) (Nat.le_refl _), hf.rR, hf.part, (hkeep b _ _ hlent (by decide) (hnb b hb0)).trans hlent, (hkeep O _ _ hop (by decide) (hnb O ho0)).trans hop, hf.list, hf.msg⟩, ⟨hr, hf.own, hf.lown, hb0, ltOf hlent, ho0, ltOf hop, hf.dis⟩, hA, ?_, ?_⟩
  · rcases ht with rfl | rfl | rfl | ⟨hS, ht⟩
    · exact hkeep i cs _ hi (by decide) (hty i cs _ hi (by decide) (by decide) (by decide))
    · exact hkeep i cs _ hi (by decide) (hty i cs _ hi (by decide) (by decide) (by decide))
    · exact hkeep i cs _ hi (by decide) (hty i cs _ hi (by decide) (by decide) (by decide))
    · exact hkeep i cs _ hi (by rcases ht with rfl | rfl <;> decide) (fun hb => (h1.sep _ r hr i hb).1 hS)
  · refine (hf.keep r.Q _ _ hA.rQ (by decide) (fun e => ?_) (fun e => ?_)).trans hA.rQ
    · have h := hA.rQ
      rw [e, hA.rR] at h
      simp only [Option.some.injEq, Obj.cells.injEq] at h
      exact absurd h.2.1 (by decide)
    · obtain ⟨c1, t1⟩ := own_type (RowIs.row hA.part) e
      rw [hA.rQ] at t1
      cases t1
  · refine own_sameS hA.all (fun g cs hg ht => hf.keep g cs _ ht (by decide) (fun e => ?_) (fun e => hA.apart g e hg))
    rw [e, hA.rR] at ht
    simp only [Option.some.injEq, Obj.cells.injEq] at ht
    exact absurd ht.2.1 (by decide)

theorem Mdl.keepQ (h0 : Rw v0 L WB S x0 x1 ra rc rds tot N M) (hm : Mdl v L WB S x0 x1 ra rc rds tot N M i r q t pv' sent lv b s O ob F) (hs : Msl v0 S rds i r pv' sent lv b O F) (hF : v0.heap.size ≤ F) (hQ : ∃ cs, v.heap[r.Q]? = some (.cells cs 177)) (hA : ∀ g, r.av.ownBlock = some g → ∃ cs, v.heap[g]? = some (.cells cs 5))
    (hsz : v.heap.size ≤ v'.heap.size) (hk : ∀ g, g < v.heap.size → g ≠ r.Q → r.av.ownBlock ≠ some g → v'.heap[g]? = v.heap[g]?) : Mdl v' L WB S x0 x1 ra rc rds tot N M i r q t pv' sent lv b s O ob F := by
  have hA0 := h0.rd i r hs.hr
  have hgo : ∀ (g : Nat) cs t, v.heap[g]? = some (.cells cs t) → (t ≠ 177 ∧ t ≠ 5 ∨ ¬ r.blk g) → v'.heap[g]? = v.heap[g]? := fun g cs t hg ht => by
    refine hk g (ltOf hg) (fun e => ?_) (fun e => ?_)
    · rcases ht with ht | ht
      · obtain ⟨c1, t1⟩ := hQ
        rw [← e, hg] at t1
        cases t1
        exact ht.1 rfl
      · exact ht (.inr (.inl e))
    · rcases ht with ht | ht
      · obtain ⟨c1, t1⟩ := hA g e
        rw [hg] at t1
        cases t1
        exact ht.2 rfl
      · exact ht (.inr (.inr (.inr e)))
  have hnb : ∀ g, v0.heap.size ≤ g → ¬ r.blk g := fun g hg hb => by have := hA0.lt hb; omega
  obtain ⟨ba, bc, flat, da, dc, flad, hbk⟩ := hm.bk
  refine ⟨⟨ba, bc, flat, da, dc, flad, hbk.keep hsz (fun i cs t hi ht => ?_)⟩, own_sameS hm.row (fun g cs hg ht => hgo g cs _ ht (.inl (by decide))), fun j r' hj hne => (hm.oth j r' hj hne).keep (fun g cs t hg hc ht => hgo g cs t hc (.inr fun hb => h0.dis j _ r' r hj hs.hr hne g hg hb)) (Nat.le_refl _), (hgo _ _ _ hm.rR (.inl (by decide))).trans hm.rR, ?_, (hgo _ _ _ hm.lent (.inr (hnb b hs.b0))).trans hm.lent, (hgo _ _ _ hm.op (.inl (by decide))).trans hm.op, ?_, fun x hx => ?_⟩
  · rcases ht with rfl | rfl | rfl | ⟨hS, ht⟩
    · exact hgo i cs _ hi (.inl (by decide))
    · exact hgo i cs _ hi (.inl (by decide))
    · exact hgo i cs _ hi (.inl (by decide))
    · exact hgo i cs _ hi (.inr fun hb => (h0.sep _ r hs.hr i hb).1 hS)
  · rcases hm.part with h | ⟨g, c, cells, h1, h2, h3, h4⟩
    · exact .inl h
    · refine .inr ⟨g, c, cells, h1, h2, (hk g (ltOf h3) (fun e => ?_) (fun e => ?_)).trans h3, h4⟩
      · obtain ⟨c1, t1⟩ := hQ
        rw [← e, h3] at t1
        cases t1
      · rcases hs.own g (by rw [h1]; rfl) with h | h
        · exact hA0.apart g h e
        · have := hA0.lt (.inr (.inr (.inr e)))
          omega
  · rcases hm.list with h | ⟨g, c, cells, h1, h2, h3, h4⟩
    · exact .inl h
    · exact .inr ⟨g, c, cells, h1, h2, (hgo g _ _ h3 (.inl (by decide))).trans h3, h4⟩
  · obtain ⟨g, k1, k2, k3, k4⟩ := hm.msg x hx
    exact ⟨g, k1, k2, (hgo g _ _ k3 (.inr (hnb g (by omega)))).trans k3, k4⟩

theorem Mdl.below (hm : Mdl v L WB S x0 x1 ra rc rds tot N M i r q t pv' sent lv b s O ob F) (hb : Below v.heap.size v v') : Mdl v' L WB S x0 x1 ra rc rds tot N M i r q t pv' sent lv b s O ob F := by
  have hk : ∀ (g : Nat) cs t, v.heap[g]? = some (.cells cs t) → v'.heap[g]? = v.heap[g]? := fun g cs t hg => hb.block g (ltOf hg)
  obtain ⟨ba, bc, flat, da, dc, flad, hbk⟩ := hm.bk
  refine ⟨⟨ba, bc, flat, da, dc, flad, hbk.below hb⟩, ownsRow_below hm.row hb, fun j r' hj hne => (hm.oth j r' hj hne).keep (fun g cs t _ hc _ => hk g cs t hc) (Nat.le_refl _), (hk _ _ _ hm.rR).trans hm.rR, ?_, (hk _ _ _ hm.lent).trans hm.lent, (hk _ _ _ hm.op).trans hm.op, ?_, fun x hx => ?_⟩
  · rcases hm.part with h0 | ⟨q, c, cells, h1, h2, h3, h4⟩
    · exact .inl h0
    · exact .inr ⟨q, c, cells, h1, h2, (hk _ _ _ h3).trans h3, h4⟩
  · rcases hm.list with h0 | ⟨q, c, cells, h1, h2, h3, h4⟩
    · exact .inl h0
    · exact .inr ⟨q, c, cells, h1, h2, (hk _ _ _ h3).trans h3, h4⟩
  · obtain ⟨g, k1, k2, k3, k4⟩ := hm.msg x hx
    exact ⟨g, k1, k2, (hk _ _ _ k3).trans k3, k4⟩

end
end Go.Proofs.YtlghcldiboecoaaGreatDoor
