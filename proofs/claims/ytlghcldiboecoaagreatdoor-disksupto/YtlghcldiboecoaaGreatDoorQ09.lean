/- Disks: the two lists of files: permutations of each other, each name once. -/
import Derived.Test.YtlghcldiboecoaaGreatDoorDkL
import Derived.Test.YtlghcldiboecoaaGreatDoorDkK
set_option linter.unusedVariables false
set_option linter.unusedSimpArgs false
namespace Go.Proofs.YtlghcldiboecoaaGreatDoor

/-- Each name once. -/
def Nd (L : List Fl) : Prop := L.Pairwise fun a b => a.n ≠ b.n

theorem wo_perm {A B : List Fl} (h : A.Perm B) (n : ByteArray) : (wo A n).Perm (wo B n) := h.filter _
theorem Nd.perm {A B : List Fl} (h : Nd A) (p : A.Perm B) : Nd B := p.pairwise h (fun h => h.symm)
theorem Nd.wo {A : List Fl} (h : Nd A) (n : ByteArray) : Nd (wo A n) := List.Pairwise.filter _ h
theorem wo_ne {A : List Fl} {n : ByteArray} {f : Fl} (h : f ∈ wo A n) : f.n ≠ n := by
  have := (List.mem_filter.1 h).2
  simpa using this

theorem wo_none {A : List Fl} {n : ByteArray} (h : ∀ f, f ∈ A → f.n ≠ n) : wo A n = A := List.filter_eq_self.2 (fun f hf => by simpa using h f hf)
theorem Nd.add {A : List Fl} {f : Fl} (h : Nd A) : Nd (Go.Proofs.YtlghcldiboecoaaGreatDoor.wo A f.n ++ [f]) := by
  refine List.pairwise_append.2 ⟨h.wo _, List.pairwise_singleton _ _, fun a ha b hb => ?_⟩
  cases List.mem_singleton.1 hb
  exact wo_ne ha

theorem AtN.perm {A B : List Fl} {n : ByteArray} {o : Option Fl} (p : A.Perm B) (h : AtN A n o) : AtN B n o := by
  cases o with
  | none => exact fun f hf => h f (p.mem_iff.2 hf)
  | some f => exact ⟨p.mem_iff.1 h.1, h.2⟩

theorem Nd.one {A : List Fl} (h : Nd A) {f g : Fl} (hf : f ∈ A) (hg : g ∈ A) (e : f.n = g.n) : f = g := by
  induction A with
  | nil => cases hf
  | cons x l ih =>
    obtain ⟨h1, h2⟩ := List.pairwise_cons.1 h
    rcases List.mem_cons.1 hf with rfl | hf' <;> rcases List.mem_cons.1 hg with rfl | hg'
    · rfl
    · exact absurd e (h1 _ hg')
    · exact absurd e.symm (h1 _ hf')
    · exact ih h2 hf' hg'

theorem AtN.eq {A : List Fl} (h : Nd A) {n : ByteArray} {o p : Option Fl} (ho : AtN A n o) (hp : AtN A n p) : o = p := by
  cases o with
  | none => cases p with
    | none => rfl
    | some g => exact absurd hp.2 (ho g hp.1)
  | some f => cases p with
    | none => exact absurd ho.2 (hp f ho.1)
    | some g => rw [h.one ho.1 hp.1 (ho.2.trans hp.2.symm)]

/-- A file that is set in place. -/
theorem Nd.set {A : List Fl} (h : Nd A) {i : Nat} {f g : Fl} {n : ByteArray} (hf : A[i]? = some f) (hn : f.n = n) : (A.set i g).Perm (Go.Proofs.YtlghcldiboecoaaGreatDoor.wo A n ++ [g]) := by
  induction A generalizing i with
  | nil => simp at hf
  | cons x l ih =>
    obtain ⟨h1, h2⟩ := List.pairwise_cons.1 h
    cases i with
    | zero =>
      simp at hf
      subst hf
      have e : Go.Proofs.YtlghcldiboecoaaGreatDoor.wo (x :: l) n = l := by
        have e1 : Go.Proofs.YtlghcldiboecoaaGreatDoor.wo (x :: l) n = Go.Proofs.YtlghcldiboecoaaGreatDoor.wo l n := by simp [Go.Proofs.YtlghcldiboecoaaGreatDoor.wo, hn]
        rw [e1, wo_none (fun y hy e => h1 y hy (hn.trans e.symm))]
      rw [e, List.set_cons_zero]
      exact (List.perm_append_comm (l₁ := [g]) (l₂ := l))
    | succ i =>
      have hx : x.n ≠ n := fun e => h1 f (List.mem_of_getElem? (by simpa using hf)) (e.trans hn.symm)
      have e : Go.Proofs.YtlghcldiboecoaaGreatDoor.wo (x :: l) n = x :: Go.Proofs.YtlghcldiboecoaaGreatDoor.wo l n := by simp [Go.Proofs.YtlghcldiboecoaaGreatDoor.wo, hx]
      rw [e, List.set_cons_succ, List.cons_append]
      exact (ih h2 (by simpa using hf)).cons x

end Go.Proofs.YtlghcldiboecoaaGreatDoor

/- Disks: the two disks answer alike: each call keeps the two lists of files alike. -/
namespace Go.Proofs.YtlghcldiboecoaaGreatDoor

/-- The program's files and the document's. -/
structure Alike (A B : List Fl) : Prop where
  perm : A.Perm B
  nd : Nd A
  safe : ∀ f, f ∈ A → f.s ≤ f.d.size

variable {A B A' B' : List Fl} {n m d : ByteArray} {o : Option Fl}

theorem Alike.at (h : Alike A B) {p : Option Fl} (ha : AtN A n o) (hb : AtN B n p) : o = p := AtN.eq h.nd ha (hb.perm h.perm.symm)
/-- A file put in the place of that of its name. -/
theorem Alike.put (h : Alike A B) {f : Fl} (hp : A'.Perm (wo A f.n ++ [f])) (hs : f.s ≤ f.d.size) : Alike A' (wo B f.n ++ [f]) := by
  refine ⟨hp.trans ((wo_perm h.perm _).append_right _), h.nd.add.perm hp.symm, fun g hg => ?_⟩
  rcases List.mem_append.1 (hp.mem_iff.1 hg) with hg | hg
  · exact h.safe g (List.mem_filter.1 hg).1
  · cases List.mem_singleton.1 hg
    exact hs

theorem Alike.wo (h : Alike A B) (n : ByteArray) : Alike (wo A n) (Go.Proofs.YtlghcldiboecoaaGreatDoor.wo B n) := ⟨wo_perm h.perm _, h.nd.wo _, fun g hg => h.safe g (List.mem_filter.1 hg).1⟩

theorem Alike.app (h : Alike A B) (ha : appP A n d A') (hb : AtN B n o) (hB : B' = Go.Proofs.YtlghcldiboecoaaGreatDoor.wo B n ++ [⟨n, (o.getD fl0).d ++ d, (o.getD fl0).s⟩]) : Alike A' B' := by
  subst hB
  rcases ha with ⟨hno, rfl⟩ | ⟨i, f, hi, hn, rfl⟩
  · have e : none = o := h.at (show AtN A n none from hno) hb
    subst e
    refine h.put (f := ⟨n, fl0.d ++ d, fl0.s⟩) ?_ (Nat.zero_le _)
    show (A ++ _).Perm _
    rw [wo_none hno]
    exact List.Perm.refl _
  · have e : some f = o := h.at (show AtN A n (some f) from ⟨List.mem_of_getElem? hi, hn⟩) hb
    subst e
    have hf := h.safe f (List.mem_of_getElem? hi)
    have e2 : ({ f with d := f.d ++ d } : Fl) = ⟨n, f.d ++ d, f.s⟩ := by rw [← hn]
    rw [e2]
    exact h.put (f := ⟨n, f.d ++ d, f.s⟩) (h.nd.set hi hn) (by show f.s ≤ (f.d ++ d).size; rw [ByteArray.size_append]; omega)

theorem Alike.sync (h : Alike A B) (ha : syncP A n A') (hb : AtN B n o) (hB : (o = none ∧ B' = B) ∨ ∃ f, o = some f ∧ B' = Go.Proofs.YtlghcldiboecoaaGreatDoor.wo B n ++ [⟨n, f.d, f.d.size⟩]) : Alike A' B' := by
  rcases ha with ⟨hno, rfl⟩ | ⟨i, f, hi, hn, rfl⟩
  · have e : none = o := h.at (show AtN A' n none from hno) hb
    subst e
    rcases hB with ⟨_, rfl⟩ | ⟨f, e, _⟩
    · exact h
    · cases e
  · have e : some f = o := h.at (show AtN A n (some f) from ⟨List.mem_of_getElem? hi, hn⟩) hb
    subst e
    rcases hB with ⟨e, _⟩ | ⟨f', e, rfl⟩
    · cases e
    · cases e
      have e2 : ({ f with s := f.d.size } : Fl) = ⟨n, f.d, f.d.size⟩ := by rw [← hn]
      rw [e2]
      exact h.put (f := ⟨n, f.d, f.d.size⟩) (h.nd.set hi hn) (Nat.le_refl _)

theorem Alike.ren (h : Alike A B) (ha : renP A n m A') (hb : AtN B n o) (hB : (o = none ∧ B' = B) ∨ ∃ f, o = some f ∧ B' = Go.Proofs.YtlghcldiboecoaaGreatDoor.wo (Go.Proofs.YtlghcldiboecoaaGreatDoor.wo B n) m ++ [⟨m, f.d, f.s⟩]) : Alike A' B' := by
  rcases ha with ⟨hno | hnm, rfl⟩ | ⟨f, hf, hn, hnm, rfl⟩
  · have e : none = o := h.at (show AtN A' n none from hno) hb
    subst e
    rcases hB with ⟨_, rfl⟩ | ⟨f, e, _⟩
    · exact h
    · cases e
  · rcases hB with ⟨_, rfl⟩ | ⟨f, e, rfl⟩
    · exact h
    · subst e
      subst hnm
      have hfA : f ∈ A' := h.perm.mem_iff.2 hb.1
      obtain ⟨i, hi⟩ := List.getElem?_of_mem hfA
      have e2 : (⟨n, f.d, f.s⟩ : Fl) = f := by rw [← hb.2]
      have e3 : Go.Proofs.YtlghcldiboecoaaGreatDoor.wo (Go.Proofs.YtlghcldiboecoaaGreatDoor.wo B n) n = Go.Proofs.YtlghcldiboecoaaGreatDoor.wo B n := wo_none (fun g hg => wo_ne hg)
      rw [e2, e3, ← hb.2]
      refine h.put (f := f) ?_ (h.safe f hfA)
      have := h.nd.set (g := f) hi rfl
      rwa [show A'.set i f = A' by obtain ⟨hl, rfl⟩ := List.getElem?_eq_some_iff.1 hi; exact List.set_getElem_self hl] at this
  · have e : some f = o := h.at (show AtN A n (some f) from ⟨hf, hn⟩) hb
    subst e
    rcases hB with ⟨e, _⟩ | ⟨f', e, rfl⟩
    · cases e
    · cases e
      exact (h.wo n).put (f := ⟨m, f.d, f.s⟩) (List.Perm.refl _) (h.safe f hf)

theorem Alike.crash (h : Alike A B) (keep : Int) : Alike (A.map (cr keep)) (B.map (cr keep)) := by
  refine ⟨h.perm.map _, List.pairwise_map.2 h.nd, fun g hg => ?_⟩
  obtain ⟨f, hf, rfl⟩ := List.mem_map.1 hg
  have := crn_le (keep := keep) (h.safe f hf)
  show crn keep f ≤ (f.d.extract 0 (crn keep f)).size
  rw [ByteArray.size_extract]
  omega

theorem Alike.nil : Alike [] [] := ⟨List.Perm.refl _, List.Pairwise.nil, fun f hf => by cases hf⟩
theorem Alike.len (h : Alike A B) : A.length = B.length := h.perm.length_eq
end Go.Proofs.YtlghcldiboecoaaGreatDoor

/- Disks: a plate: the program's disk, its hand, and the document's disk beside it. -/
namespace Go.Proofs.YtlghcldiboecoaaGreatDoor
open Go.RowKit

/-- A plate: where it lies, what it holds. -/
structure Pt where
  db : Nat
  hb : Nat
  sb : Nat
  rb : Nat
  lf : Int
  A : List Fl
  B : List Fl
  sa : Option Addr
  sc : Nat
  ra : Option Addr
  rc : Nat

/-- A plate in memory. -/
structure PtAt (w : World) (p : Pt) : Prop where
  d : w.heap[p.db]? = some (.cells #[.pointer (some ⟨p.sb, 0, none⟩)] 84)
  h : w.heap[p.hb]? = some (.cells #[.pointer (some ⟨p.sb, 0, none⟩)] 86)
  s : St 82 91 w p.sb p.lf p.A p.sa p.sc
  r : St 89 93 w p.rb p.lf p.B p.ra p.rc
  al : Alike p.A p.B
  l0 : -1 ≤ p.lf
  l1 : p.lf ≤ 9223372036854775807

/-- How many files, how many bytes in one. -/
def lim (A : List Fl) (n m : Nat) : Prop := A.length ≤ n ∧ ∀ f, f ∈ A → f.d.size ≤ m

/-- What a call changes of a plate. -/
structure Gp (w w' : World) (p p' : Pt) : Prop where
  size : w.heap.size ≤ w'.heap.size
  same : ∀ i, i < w.heap.size → i ≠ p.sb → i ≠ p.rb → ownA p.sa ≠ some i → ownA p.ra ≠ some i → w'.heap[i]? = w.heap[i]?
  sown : ∀ g, ownA p'.sa = some g → ownA p.sa = some g ∨ w.heap.size ≤ g
  rown : ∀ g, ownA p'.ra = some g → ownA p.ra = some g ∨ w.heap.size ≤ g
  ids : p'.db = p.db ∧ p'.hb = p.hb ∧ p'.sb = p.sb ∧ p'.rb = p.rb

theorem St.own_t {bt rt : TypeId} {w : World} {K : Nat} {lf : Int} {L : List Fl} {fa : Option Addr} {fc : Nat} (h : St bt rt w K lf L fa fc) {g : Nat} (e : ownA fa = some g) : ∃ cs, w.heap[g]? = some (.cells cs rt) := own_type h.row ((own_A _ _ _).trans e)
theorem St.go {bt rt : TypeId} {w w' : World} {K K2 : Nat} {lf : Int} {L : List Fl} {fa : Option Addr} {fc : Nat} {o o' : Option Nat} (h : St bt rt w K lf L fa fc) (hg : Go3 w w' K2 o o') (h1 : K ≠ K2) (h2 : o ≠ some K) (h3 : ∀ g, ownA fa = some g → g ≠ K2 ∧ o ≠ some g) : St bt rt w' K lf L fa fc :=
  ⟨(hg.same _ (ltOf h.blk) h1 h2).trans h.blk, own_sameS h.row (fun g cs e hc => hg.same g (ltOf hc) (h3 g ((own_A _ _ _).symm.trans e)).1 (h3 g ((own_A _ _ _).symm.trans e)).2)⟩

/-- Blocks of other types are others. -/
theorem ne_of_t {w : World} {i j : Nat} {a b : Array Value} {s t : TypeId} (h : w.heap[i]? = some (.cells a s)) (k : w.heap[j]? = some (.cells b t)) (e : s ≠ t) : i ≠ j := fun c => by
  subst c
  rw [h] at k
  cases k
  exact e rfl

theorem St.own_ne {bt rt : TypeId} {w : World} {K : Nat} {lf : Int} {L : List Fl} {fa : Option Addr} {fc : Nat} (h : St bt rt w K lf L fa fc) {j : Nat} {b : Array Value} {t : TypeId} (k : w.heap[j]? = some (.cells b t)) (e : rt ≠ t) : ownA fa ≠ some j := fun c => by
  obtain ⟨cs, hc⟩ := h.own_t c
  exact ne_of_t hc k e rfl

variable {w w' w1 w2 : World} {p p' : Pt} {l' : Int} {A' B' : List Fl}

theorem PtAt.below (h : PtAt w p) (hb : Below w.heap.size w w') : PtAt w' p := ⟨(hb.block _ (ltOf h.d)).trans h.d, (hb.block _ (ltOf h.h)).trans h.h, h.s.below hb, h.r.below hb, h.al, h.l0, h.l1⟩
theorem Gp.below (hb : Below w.heap.size w w') : Gp w w' p p := ⟨hb.size, fun i hi _ _ _ _ => hb.block i hi, fun _ h => .inl h, fun _ h => .inl h, rfl, rfl, rfl, rfl⟩
theorem Gp.up (hb : Below w.heap.size w w1) (h : Gp w1 w2 p p') : Gp w w2 p p' :=
  ⟨Nat.le_trans hb.size h.size, fun i hi a b c d => (h.same i (Nat.lt_of_lt_of_le hi hb.size) a b c d).trans (hb.block i hi), fun g e => (h.sown g e).imp id (fun k => Nat.le_trans hb.size k), fun g e => (h.rown g e).imp id (fun k => Nat.le_trans hb.size k), h.ids⟩

/-- Behind the program's call. -/
theorem PtAt.mid (h : PtAt w p) (hd : Dgo 82 91 w w1 p.sb l' p.sa A') : St 89 93 w1 p.rb p.lf p.B p.ra p.rc := by
  obtain ⟨sa', sc', hs, hg⟩ := hd
  exact h.r.go hg (ne_of_t h.r.blk h.s.blk (by decide)) (h.s.own_ne h.r.blk (by decide)) (fun g e => by
    obtain ⟨cs, hc⟩ := h.r.own_t e
    exact ⟨ne_of_t hc h.s.blk (by decide), h.s.own_ne hc (by decide)⟩)

/-- Behind both. -/
theorem PtAt.fin (h : PtAt w p) (hd : Dgo 82 91 w w1 p.sb l' p.sa A') (hr : Dgo 89 93 w1 w2 p.rb l' p.ra B') (al : Alike A' B') (l0 : -1 ≤ l') (l1 : l' ≤ 9223372036854775807) : ∃ p', PtAt w2 p' ∧ Gp w w2 p p' ∧ p'.A = A' := by
  have hm := h.mid hd
  obtain ⟨sa', sc', hs, hg⟩ := hd
  obtain ⟨ra', rc', hr, hg'⟩ := hr
  have hd1 : w1.heap[p.db]? = _ := (hg.same _ (ltOf h.d) (ne_of_t h.d h.s.blk (by decide)) (h.s.own_ne h.d (by decide))).trans h.d
  have hh1 : w1.heap[p.hb]? = _ := (hg.same _ (ltOf h.h) (ne_of_t h.h h.s.blk (by decide)) (h.s.own_ne h.h (by decide))).trans h.h
  refine ⟨⟨p.db, p.hb, p.sb, p.rb, l', A', B', sa', sc', ra', rc'⟩, ⟨(hg'.same _ (ltOf hd1) (ne_of_t hd1 hm.blk (by decide)) (hm.own_ne hd1 (by decide))).trans hd1, (hg'.same _ (ltOf hh1) (ne_of_t hh1 hm.blk (by decide)) (hm.own_ne hh1 (by decide))).trans hh1, ?_, hr, al, l0, l1⟩, ⟨Nat.le_trans hg.size hg'.size, fun i hi a b c d => (hg'.same i (Nat.lt_of_lt_of_le hi hg.size) b d).trans (hg.same i hi a c), fun g e => hg.own g e, fun g e => ?_, rfl, rfl, rfl, rfl⟩, rfl⟩
  · exact hs.go hg' (ne_of_t hs.blk hm.blk (by decide)) (hm.own_ne hs.blk (by decide)) (fun g e => by
      obtain ⟨cs, hc⟩ := hs.own_t e
      exact ⟨ne_of_t hc hm.blk (by decide), hm.own_ne hc (by decide)⟩)
  · exact (hg'.own g e).imp id (fun k => Nat.le_trans hg.size k)

theorem dec_lo {l : Int} (h : -1 ≤ l) : -1 ≤ dec l := by unfold dec; split <;> omega
theorem dec_hi {l : Int} (h : l ≤ 9223372036854775807) : dec l ≤ 9223372036854775807 := by unfold dec; split <;> omega

/- The bounds through each call. -/
variable {A B : List Fl} {n m k : Nat} {s t : ByteArray}
theorem lim.perm (h : lim A n m) (q : A.Perm B) : lim B n m := ⟨by rw [← q.length_eq]; exact h.1, fun f hf => h.2 f (q.mem_iff.2 hf)⟩
theorem lim.mono (h : lim A n m) {n' m' : Nat} (h1 : n ≤ n') (h2 : m ≤ m') : lim A n' m' := ⟨Nat.le_trans h.1 h1, fun f hf => Nat.le_trans (h.2 f hf) h2⟩
theorem lim.nil : lim [] n m := ⟨Nat.zero_le _, fun f hf => by cases hf⟩
theorem lim.wo (h : lim A n m) (s : ByteArray) : lim (wo A s) n m := ⟨Nat.le_trans (List.length_filter_le _ _) h.1, fun f hf => h.2 f (List.mem_filter.1 hf).1⟩
theorem lim.app (h : lim A n m) (ha : appP A s t A') : lim A' (n + 1) (m + t.size) := by
  rcases ha with ⟨_, rfl⟩ | ⟨i, f, hi, _, rfl⟩
  · refine ⟨by simp; exact h.1, fun f hf => ?_⟩
    rcases List.mem_append.1 hf with hf | hf
    · have := h.2 f hf; omega
    · cases List.mem_singleton.1 hf
      show ((⟨#[]⟩ : ByteArray) ++ t).size ≤ _
      rw [ByteArray.size_append]
      show 0 + t.size ≤ _
      omega
  · refine ⟨by have := h.1; simp; omega, fun g hg => ?_⟩
    rcases List.mem_or_eq_of_mem_set hg with hg | rfl
    · have := h.2 g hg; omega
    · show (f.d ++ t).size ≤ _
      rw [ByteArray.size_append]
      have := h.2 f (List.mem_of_getElem? hi)
      omega

theorem lim.sync (h : lim A n m) (ha : syncP A s A') : lim A' n m := by
  rcases ha with ⟨_, rfl⟩ | ⟨i, f, hi, _, rfl⟩
  · exact h
  · refine ⟨by simpa using h.1, fun g hg => ?_⟩
    rcases List.mem_or_eq_of_mem_set hg with hg | rfl
    · exact h.2 g hg
    · exact h.2 f (List.mem_of_getElem? hi)

theorem lim.ren (h : lim A n m) (ha : renP A s t A') : lim A' (n + 1) m := by
  rcases ha with ⟨_, rfl⟩ | ⟨f, hf, _, _, rfl⟩
  · exact h.mono (by omega) (Nat.le_refl _)
  · have h2 := (h.wo s).wo t
    refine ⟨by have := h2.1; simp; omega, fun g hg => ?_⟩
    rcases List.mem_append.1 hg with hg | hg
    · exact h2.2 g hg
    · cases List.mem_singleton.1 hg
      exact h.2 f hf

theorem lim.crash (h : lim A n m) (keep : Int) : lim (A.map (cr keep)) n m := by
  refine ⟨by simpa using h.1, fun g hg => ?_⟩
  obtain ⟨f, hf, rfl⟩ := List.mem_map.1 hg
  have := h.2 f hf
  show (f.d.extract 0 (crn keep f)).size ≤ _
  rw [ByteArray.size_extract]
  omega

end Go.Proofs.YtlghcldiboecoaaGreatDoor
