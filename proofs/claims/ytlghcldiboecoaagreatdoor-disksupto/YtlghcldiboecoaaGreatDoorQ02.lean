/- An append onto a row that is owned: the old list stays a row; where the new one lies. -/
import Derived.Test.YtlghcldiboecoaaGreatDoorQ01
import Derived.Deep.RegionLaw
set_option linter.unusedVariables false
set_option linter.unusedSimpArgs false
namespace Go.Proofs.YtlghcldiboecoaaGreatDoor
open Go.RowKit

theorem own_prefix {w : World} {base : Nat} {e : TypeId} {size g n m cap : Nat} {xs news : List Value} (h : w.ownsRow base e size (.slice (some ⟨g, 0, none⟩) (n + m) cap) (n + m) (xs ++ news)) (hx : xs.length = n * size) :
    w.ownsRow base e size (.slice (some ⟨g, 0, none⟩) n cap) n xs := by
  rcases h.2 with ⟨h0, _⟩ | ⟨g', cap', cur, hv, hbg, hg, hnc, hcm, hcs, htake⟩
  · cases h0
  · cases hv
    refine ⟨hx, .inr ⟨g, cap, cur, rfl, hbg, hg, by omega, hcm, hcs, ?_⟩⟩
    have h1 := congrArg (List.take (n * size)) htake
    rw [← hx, List.take_left, hx, List.take_take, Nat.min_eq_left (Nat.mul_le_mul_right _ (by omega))] at h1
    exact h1

section
variable {P : Program} (w : World)

def AppRes (w w' : World) (base : Nat) (e : TypeId) (size : Nat) (v v' : Value) (n m : Nat) (xs news : List Value) : Prop :=
  w'.ownsRow base e size v' (n + m) (xs ++ news) ∧ w'.ownsRow base e size v n xs ∧ ((v'.ownBlock = v.ownBlock ∧ w.grownBy w' v.ownBlock) ∨ (v'.ownBlock = some w.heap.size ∧ Below w.heap.size w w'))

theorem run_append_keep (base : Nat) (t ty e : TypeId) (i : TypeInfo) (z : Value) (size bytes : Nat) (ht : P.underlying t = some (.slice e)) (hi : P.info? e = some i) (hz : i.zero = some z)
    (hsize : i.size = size) (hby : i.bytes = bytes) (hzs : z.cells.size = size) (hsz : 0 < size)
    (v : Value) (n : Nat) (xs : List Value) (hown : w.ownsRow base e size v n xs)
    (a : Addr) (m c : Nat) (news : List Value) (hl : news.length = m * size) (hnews : ∀ j u, news[j]? = some u → w.cell? (a.add j) = some u) (h1 : ∀ u ∈ news, u.oneCell' = true)
    (hm : 0 < m) (h63 : n + m ≤ maxLen) (hbytes : (n + m) * bytes ≤ 140737488355328) (hbase : base ≤ w.heap.size) :
    ∃ v' w', (Builtin.append_ #[t, t] ty #[v, .slice (some a) m c]).run P w = .ok v' w' ∧ AppRes w w' base e size v v' n m xs news := by
  obtain ⟨v', w', hr1, ho, _⟩ := run_append_own_at (P := P) w base t ty e i z size bytes ht hi hz hsize hby hzs hsz v n xs hown a m c news hl hnews h1 h63 hbytes hbase
  subst hsize
  subst hby
  have hsmall : n + m ≤ 9223372036854775807 := by simp only [maxLen] at h63; omega
  have fresh : ∀ ob, Below w.heap.size w (w.drew.alloc ob) := fun ob => (below_drew w).trans (below1 w.drew ob)
  rcases hown.2 with ⟨rfl, rfl⟩ | ⟨g, cap, _, rfl, _⟩
  · have hx : xs = [] := List.eq_nil_of_length_eq_zero (by simpa using hown.1)
    subst hx
    have hr := run_append_nil (P := P) w t ty e i z ht hi hz a m c news hl hnews (by omega) (by omega) (by rw [Nat.zero_add] at hbytes; omega)
    rw [hr] at hr1
    cases hr1
    exact ⟨_, _, hr, ho, World.ownsRow_nil _ _ _ _, .inr ⟨rfl, fresh _⟩⟩
  · by_cases hroom : n + m ≤ cap
    · obtain ⟨w2, hr, h2, h3⟩ := run_append_fits (P := P) w base t ty e i i.size ht hi rfl g n cap xs hown a m c news hl hnews h1 hroom
      exact ⟨_, w2, hr, h2, own_prefix h2 hown.1, .inl ⟨rfl, h3⟩⟩
    · have hr := run_append_grow (P := P) w t ty e i z ht hi hz ⟨g, 0, none⟩ n cap xs hown.1 (hown.cells (g := g) rfl) a m c news hl hnews (by omega) (by omega) (growslice_fits (by omega) hbytes)
      rw [hr] at hr1
      cases hr1
      exact ⟨_, _, hr, ho, hown.drew.alloc _, .inr ⟨rfl, fresh _⟩⟩

theorem wpList_append_keep {ops : Array Oper} {rest : List Oper} {o : Oper} {a : Act} {Q : Exit → Act → World → Prop} (hgd : o.guard = none) (s x : Operand) (t : TypeId)
    (ho : o.op = .call { callee := .builtin .append, args := #[s, x], argTypes := #[t, t] })
    (base : Nat) (e : TypeId) (i : TypeInfo) (z : Value) (size bytes : Nat) (ht : P.underlying t = some (.slice e)) (hi : P.info? e = some i) (hz : i.zero = some z)
    (hsize : i.size = size) (hby : i.bytes = bytes) (hzs : z.cells.size = size) (hsz : 0 < size)
    (v : Value) (n : Nat) (xs : List Value) (hs : a.eval s = v) (hown : w.ownsRow base e size v n xs)
    (ad : Addr) (m c : Nat) (news : List Value) (hx : a.eval x = .slice (some ad) m c) (hl : news.length = m * size) (hnews : ∀ j u, news[j]? = some u → w.cell? (ad.add j) = some u) (h1 : ∀ u ∈ news, u.oneCell' = true)
    (hm : 0 < m) (h63 : n + m ≤ maxLen) (hbytes : (n + m) * bytes ≤ 140737488355328) (hbase : base ≤ w.heap.size)
    (h : ∀ v' w', AppRes w w' base e size v v' n m xs news → wpList P ops Q rest (a.put o.dst v') w') :
    wpList P ops Q (o :: rest) a w := by
  refine wpList_plain hgd fun K hK => ?_
  obtain ⟨v', w', hr, h2⟩ := run_append_keep (P := P) w base t o.type e i z size bytes ht hi hz hsize hby hzs hsz v n xs hown ad m c news hl hnews h1 hm h63 hbytes hbase
  unfold Oper.wp execOp
  simp only [ho, resolve, invoke, builtin, Sem.run_bind, Sem.run_pure, Result.andThen_ok, List.map_toArray, List.map_cons, List.map_nil, hs, hx, hr]
  exact hK _ _ (h v' w' h2)

end

def marks (n k : Nat) : List Value := (List.range k).map fun i => .int .u8 (mark n i).toNat

theorem marks_len (n k : Nat) : (marks n k).length = k := by simp [marks]
theorem marks_add (n k m : Nat) : marks n (k + m) = marks n k ++ (List.range m).map (fun i => Value.int .u8 (mark n (k + i)).toNat) := by
  simp [marks, List.range_add, Function.comp_def]

theorem set_marks {n i : Nat} {xs : List Value} (hi : i < xs.length) : (marks n i ++ xs.drop i).set i (.int .u8 (mark n i).toNat) = marks n (i + 1) ++ xs.drop (i + 1) := by
  rw [List.set_append_right _ _ (by rw [marks_len]; omega), marks_len, Nat.sub_self, List.drop_eq_getElem_cons hi, List.set_cons_zero, marks_add]
  simp

end Go.Proofs.YtlghcldiboecoaaGreatDoor

/- The caller's books: a list of bytes is kept. -/
namespace Go.Proofs.YtlghcldiboecoaaGreatDoor
open Go.RowKit

abbrev more (N k m : Nat) : List Value := (List.range m).map (fun i => Value.int .u8 (mark N (k + i)).toNat)

theorem below_setX {W : World} {C X j : Nat} {u : Value} (hX : C ≤ X) : Below C W (W.setCell ⟨X, j, none⟩ u) :=
  ⟨rfl, rfl, rfl, by simp, fun i hi => heap_setCell_other _ _ _ _ (by show i ≠ X; omega)⟩

end Go.Proofs.YtlghcldiboecoaaGreatDoor

/- The caller's books: a list of bytes is kept. -/
namespace Go.Proofs.YtlghcldiboecoaaGreatDoor
open Go.RowKit

theorem Tryz.info120 : (Tryz.prog.info? 120).map (fun i => (i.zero, i.size, i.bytes)) = some (some (.agg #[.slice none 0 0, .slice none 0 0, .slice none 0 0, .slice none 0 0, .int .i64 0]), 5, 104) := by kernel_rfl

theorem more_one (N k m : Nat) : ∀ u, u ∈ more N k m → u.oneCell' = true := by
  intro u hu
  obtain ⟨x, _, rfl⟩ := List.mem_map.1 hu
  rfl

end Go.Proofs.YtlghcldiboecoaaGreatDoor

/- The caller's books: a list is kept, whatever its elements are: what is carried along. -/
namespace Go.Proofs.YtlghcldiboecoaaGreatDoor
open Go.RowKit

theorem gr_trans {a b c : World} {r : Option Nat} (h1 : a.grownBy b r) (h2 : b.grownBy c r) : a.grownBy c r :=
  ⟨h2.os.trans h1.os, h2.tape.trans h1.tape, h2.output.trans h1.output, Nat.le_trans h1.size h2.size, fun i hi hr => (h2.block i (Nat.lt_of_lt_of_le hi h1.size) hr).trans (h1.block i hi hr)⟩

theorem gr_below {a b : World} {r : Option Nat} (h : Below a.heap.size a b) : a.grownBy b r := ⟨h.os, h.tape, h.output, h.size, fun i hi _ => h.block i hi⟩

/-- A list that reads as written, in a block of its type, among the blocks S. -/
def MfAt (w : World) (S : Nat → Prop) (e : TypeId) (mf : Nat → Value) (v : Value) : Prop :=
  ∃ la ln lc, v = .slice la ln lc ∧ ln ≤ 9223372036854775806 ∧ ln ≤ lc ∧ ∀ i, i < ln → ∃ g cs, la = some ⟨g, 0, none⟩ ∧ S g ∧ w.heap[g]? = some (.cells cs e) ∧ w.cell? ⟨g, i, none⟩ = some (mf i)

def mfs (mf : Nat → Value) (k : Nat) : List Value := (List.range k).map mf
abbrev mfm (mf : Nat → Value) (k m : Nat) : List Value := (List.range m).map fun i => mf (k + i)

variable {w W W' : World} {S S' : Nat → Prop} {e rt kt : TypeId} {mf : Nat → Value} {v u l a b c v' : Value} {base k m N X : Nat}

theorem mfs_len : (mfs mf k).length = k := by simp [mfs]
theorem mfs_get {i : Nat} (h : i < k) : (mfs mf k)[i]? = some (mf i) := by simp [mfs, h]
theorem mfs_add : mfs mf (k + m) = mfs mf k ++ mfm mf k m := by simp [mfs, mfm, List.range_add, Function.comp_def]
theorem set_mfs {i : Nat} {xs : List Value} (hi : i < xs.length) : (mfs mf i ++ xs.drop i).set i (mf i) = mfs mf (i + 1) ++ xs.drop (i + 1) := by
  rw [List.set_append_right _ _ (by rw [mfs_len]; omega), mfs_len, Nat.sub_self, List.drop_eq_getElem_cons hi, List.set_cons_zero, mfs_add]
  simp [mfm]

theorem MfAt.keep (h : MfAt W S e mf v) (hs : ∀ g cs, S g → W.heap[g]? = some (.cells cs e) → W'.heap[g]? = W.heap[g]?) (hSS : ∀ g cs, S g → W.heap[g]? = some (.cells cs e) → S' g) : MfAt W' S' e mf v := by
  obtain ⟨la, ln, lc, hv, h1, h2, h3⟩ := h
  refine ⟨la, ln, lc, hv, h1, h2, fun i hi => ?_⟩
  obtain ⟨g, cs, hg, hB, hc, hce⟩ := h3 i hi
  exact ⟨g, cs, hg, hSS g cs hB hc, (hs g cs hB hc).trans hc, (World.cell?_of_block (w := W) (a := ⟨g, i, none⟩) (hs g cs hB hc)).trans hce⟩

theorem MfAt.nil : MfAt W S e mf (.slice none 0 0) := ⟨none, 0, 0, rfl, by omega, by omega, fun i hi => by omega⟩

theorem mf_of_own (h : w.ownsRow base e 1 v k (mfs mf k)) (hk : k ≤ 9223372036854775806) (hS : ∀ g, v.ownBlock = some g → S g) : MfAt w S e mf v := by
  rcases h.2 with ⟨rfl, rfl⟩ | ⟨g, cap, cur, rfl, hbg, hg, hnc, _⟩
  · exact .nil
  · refine ⟨_, k, cap, rfl, hk, hnc, fun i hi => ⟨g, cur, rfl, hS g rfl, hg, ?_⟩⟩
    have := h.cells rfl i _ (mfs_get hi)
    rw [Addr.add_lit, Nat.zero_add] at this
    exact this

theorem mf_after (hu : MfAt w S e mf u) (hul : ∀ la ln lc, u = .slice la ln lc → ln ≤ k + m) (h : AppRes w W' base e 1 v v' k m (mfs mf k) (mfm mf k m)) : MfAt W' S e mf u := by
  obtain ⟨la, ln, lc, rfl, h1, h2, h3⟩ := hu
  have hle := hul la ln lc rfl
  obtain ⟨ho, _, hcase⟩ := h
  rw [← mfs_add] at ho
  refine ⟨la, ln, lc, rfl, h1, h2, fun i hi => ?_⟩
  obtain ⟨g, cs, hg, hSg, hgt, hc⟩ := h3 i hi
  rcases hcase with ⟨he, hgr⟩ | ⟨_, hb⟩
  · by_cases hgv : v.ownBlock = some g
    · have hgv' : v'.ownBlock = some g := he.trans hgv
      have := ho.cells hgv' i _ (mfs_get (show i < k + m by omega))
      rw [Addr.add_lit, Nat.zero_add] at this
      rcases ho.2 with ⟨hz, _⟩ | ⟨g', cap, cur, hz, _, hg', _⟩
      · rw [hz] at hgv'; cases hgv'
      · rw [hz] at hgv'
        cases hgv'
        exact ⟨_, cur, hg, hSg, hg', this⟩
    · have hs := hgr.block g (ltOf hgt) (fun e => hgv e.symm)
      exact ⟨g, cs, hg, hSg, hs.trans hgt, (World.cell?_of_block (w := w) (a := ⟨g, i, none⟩) hs).trans hc⟩
  · have hs := hb.block g (ltOf hgt)
    exact ⟨g, cs, hg, hSg, hs.trans hgt, (World.cell?_of_block (w := w) (a := ⟨g, i, none⟩) hs).trans hc⟩

/-- A list of at most k. -/
def MfLe (W : World) (S : Nat → Prop) (e : TypeId) (mf : Nat → Value) (k : Nat) (v : Value) : Prop := MfAt W S e mf v ∧ ∀ la ln lc, v = .slice la ln lc → ln ≤ k

theorem MfLe.nil : MfLe W S e mf k (.slice none 0 0) := ⟨.nil, fun la ln lc h => by cases h; omega⟩
theorem MfLe.below (h : MfLe W S e mf k v) (hb : Below W.heap.size W W') : MfLe W' S e mf k v :=
  ⟨h.1.keep (fun g cs _ hg => hb.block g (ltOf hg)) (fun _ _ h _ => h), h.2⟩

/-- What keepBytes and keepBodies carry along: rt: the type of the books' rows. -/
structure Kg (w W : World) (e rt : TypeId) (mf : Nat → Value) (X k N : Nat) (l a b c : Value) : Prop where
  low : w.grownBy W l.ownBlock
  blk : W.heap[X]? = some (.cells #[l, a, b, c, .int .i64 N] rt)
  hX : w.heap.size ≤ X
  row : W.ownsRow 0 e 1 l k (mfs mf k)
  ma : MfLe W (fun g => l.ownBlock = some g ∨ w.heap.size ≤ g) e mf (k + 1) a
  mb : MfLe W (fun g => l.ownBlock = some g ∨ w.heap.size ≤ g) e mf (k + 2) b
  mc : MfLe W (fun g => l.ownBlock = some g ∨ w.heap.size ≤ g) e mf (k + 3) c
  ne : l.ownBlock ≠ some X
  et : e ≠ rt

theorem Kg.after (h : Kg w W e rt mf X k N l a b c) (hb : Below W.heap.size W W') : Kg w W' e rt mf X k N l a b c :=
  ⟨gr_trans h.low (gr_below hb), (hb.block _ (ltOf h.blk)).trans h.blk, h.hX, ownsRow_below h.row hb, h.ma.below hb, h.mb.below hb, h.mc.below hb, h.ne, h.et⟩

theorem Kg.append (h : Kg w W e rt mf X k N l a b c) (hr : AppRes W W' 0 e 1 l v' k m (mfs mf k) (mfm mf k m)) (hk : k + m ≤ 9223372036854775806)
    (h1 : ∀ la ln lc, a = .slice la ln lc → ln ≤ k + m) (h2 : ∀ la ln lc, b = .slice la ln lc → ln ≤ k + m) (h3 : ∀ la ln lc, c = .slice la ln lc → ln ≤ k + m) :
    Kg w W' e rt mf X k N l a b c ∧ MfLe W' (fun g => l.ownBlock = some g ∨ w.heap.size ≤ g) e mf (k + m) v' := by
  have hlow : W.grownBy W' l.ownBlock := by
    rcases hr.2.2 with ⟨_, hg⟩ | ⟨_, hb⟩
    · exact hg
    · exact gr_below hb
  refine ⟨⟨gr_trans h.low hlow, (hlow.block X (ltOf h.blk) h.ne.symm).trans h.blk, h.hX, hr.2.1, ⟨mf_after h.ma.1 h1 hr, h.ma.2⟩, ⟨mf_after h.mb.1 h2 hr, h.mb.2⟩, ⟨mf_after h.mc.1 h3 hr, h.mc.2⟩, h.ne, h.et⟩, ?_, ?_⟩
  · have ho := hr.1
    rw [← mfs_add] at ho
    refine mf_of_own ho (by omega) (fun g hg => ?_)
    rcases hr.2.2 with ⟨he, _⟩ | ⟨he, _⟩
    · exact .inl (he.symm.trans hg)
    · rw [he] at hg
      cases hg
      exact .inr h.low.size
  · intro la ln lc hv
    rcases hr.1.2 with ⟨h0, hn⟩ | ⟨g, cap, cur, h0, _⟩
    · rw [hv] at h0; cases h0; omega
    · rw [hv] at h0; cases h0; omega

theorem MfLe.set {j : Nat} {cs : Array Value} {t : TypeId} (h : MfLe W S e mf k u) (hx : W.heap[X]? = some (.cells cs t)) (ht : e ≠ t) (z : Value) : MfLe (W.setCell ⟨X, j, none⟩ z) S e mf k u :=
  ⟨h.1.keep (fun g cs _ hg => heap_setCell_other _ _ _ _ (fun h => by subst h; rw [hx] at hg; cases hg; exact ht rfl)) (fun _ _ h _ => h), h.2⟩

theorem gr_setX {j : Nat} {r : Option Nat} (hX : w.heap.size ≤ X) (h : w.grownBy W r) (z : Value) : w.grownBy (W.setCell ⟨X, j, none⟩ z) r :=
  ⟨h.os, h.tape, h.output, by simpa using h.size, fun i hi hr => (heap_setCell_other _ _ _ _ (by show i ≠ X; omega)).trans (h.block i hi hr)⟩

theorem own_setZ {j n : Nat} {e : TypeId} {size : Nat} {xs : List Value} (h : W.ownsRow base e size l n xs) (hne : l.ownBlock ≠ some X) (z : Value) : (W.setCell ⟨X, j, none⟩ z).ownsRow base e size l n xs :=
  h.kept (row := some X) ⟨rfl, rfl, rfl, by simp, fun i _ hi => heap_setCell_other _ _ _ _ (fun e => hi (by rw [e]))⟩ (.inr hne)

theorem own_shapeZ {base n : Nat} {e : TypeId} {size : Nat} {v : Value} {xs : List Value} (h : w.ownsRow base e size v n xs) : ∃ a c, v = .slice a n c := by
  rcases h.2 with ⟨e, h0⟩ | ⟨g, cap, cur, e, _⟩
  · exact ⟨none, 0, by rw [e, h0]⟩
  · exact ⟨_, _, e⟩

theorem Kg.store1 (h : Kg w W e rt mf X k N l a b c) (hu : MfLe W (fun g => l.ownBlock = some g ∨ w.heap.size ≤ g) e mf (k + 1) u) : Kg w (W.setCell ⟨X, 1, none⟩ u) e rt mf X k N l u b c :=
  ⟨gr_setX h.hX h.low u, heap_setCell_same W X 1 _ rt u h.blk, h.hX, own_setZ h.row h.ne u, hu.set h.blk h.et u, h.mb.set h.blk h.et u, h.mc.set h.blk h.et u, h.ne, h.et⟩

theorem Kg.store2 (h : Kg w W e rt mf X k N l a b c) (hu : MfLe W (fun g => l.ownBlock = some g ∨ w.heap.size ≤ g) e mf (k + 2) u) : Kg w (W.setCell ⟨X, 2, none⟩ u) e rt mf X k N l a u c :=
  ⟨gr_setX h.hX h.low u, heap_setCell_same W X 2 _ rt u h.blk, h.hX, own_setZ h.row h.ne u, h.ma.set h.blk h.et u, hu.set h.blk h.et u, h.mc.set h.blk h.et u, h.ne, h.et⟩

theorem Kg.store3 (h : Kg w W e rt mf X k N l a b c) (hu : MfLe W (fun g => l.ownBlock = some g ∨ w.heap.size ≤ g) e mf (k + 3) u) : Kg w (W.setCell ⟨X, 3, none⟩ u) e rt mf X k N l a b u :=
  ⟨gr_setX h.hX h.low u, heap_setCell_same W X 3 _ rt u h.blk, h.hX, own_setZ h.row h.ne u, h.ma.set h.blk h.et u, h.mb.set h.blk h.et u, hu.set h.blk h.et u, h.ne, h.et⟩

/-- What a kept list leaves. -/
structure KgRes (w w' : World) (K o : Nat) (cs : Array Value) (kt e rt : TypeId) (mf : Nat → Value) (B : Nat) (ba : Option Addr) (N bc : Nat) (flat : List Value) (lv : Value) (ba' : Option Addr) (bc' : Nat) (l a b c : Value) : Prop where
  kb : w'.heap[K]? = some (.cells (cs.setIfInBounds o (.slice ba' (N + 1) bc')) kt)
  row : w'.ownsRow B rt 5 (.slice ba' (N + 1) bc') (N + 1) (flat ++ [l, a, b, c, .int .i64 N])
  ml : MfAt w' (fun g => lv.ownBlock = some g ∨ w.heap.size ≤ g) e mf l
  ma : MfAt w' (fun g => lv.ownBlock = some g ∨ w.heap.size ≤ g) e mf a
  mb : MfAt w' (fun g => lv.ownBlock = some g ∨ w.heap.size ≤ g) e mf b
  mc : MfAt w' (fun g => lv.ownBlock = some g ∨ w.heap.size ≤ g) e mf c
  at' : (Value.slice ba' (N + 1) bc').ownBlock = (Value.slice ba N bc).ownBlock ∨ ∃ g, (Value.slice ba' (N + 1) bc').ownBlock = some g ∧ w.heap.size ≤ g
  os : w'.os = w.os
  tape : w'.tape = w.tape
  output : w'.output = w.output
  size : w.heap.size ≤ w'.heap.size
  same : ∀ i, i < w.heap.size → i ≠ K → (Value.slice ba N bc).ownBlock ≠ some i → lv.ownBlock ≠ some i → w'.heap[i]? = w.heap[i]?

theorem own_type {n size : Nat} {xs : List Value} {g : Nat} (h : w.ownsRow base e size v n xs) (hg : v.ownBlock = some g) : ∃ cs, w.heap[g]? = some (.cells cs e) := by
  rcases h.2 with ⟨hz, _⟩ | ⟨g', cap, cur, hz, _, hg', _⟩
  · rw [hz] at hg; cases hg
  · rw [hz] at hg; cases hg; exact ⟨cur, hg'⟩

set_option maxHeartbeats 1000000 in
theorem kg_end {w5 : World} {K o B bc g cap : Nat} {cs : Array Value} {ba : Option Addr} {flat : List Value}
    (KP : Kg w W e rt mf X k N l a b c) (hk : k ≤ 1000000000000) (hKB : w.heap[K]? = some (.cells cs kt)) (hek : e ≠ kt) (hrk : rt ≠ kt)
    (hrow : w.ownsRow B rt 5 (.slice ba N bc) N flat) (hown : w5.ownsRow B rt 5 (.slice (some ⟨g, 0, none⟩) (N + 1) cap) (N + 1) (flat ++ [l, a, b, c, .int .i64 N]))
    (hgrow : W.drew.grownBy w5 (Value.slice ba N bc).ownBlock) (hat : (Value.slice ba N bc).ownBlock = some g ∨ g = W.drew.heap.size) (hl0 : ∃ xs, w.ownsRow 0 e 1 l k xs) :
    KgRes w (w5.setCell ⟨K, o, none⟩ (.slice (some ⟨g, 0, none⟩) (N + 1) cap)) K o cs kt e rt mf B ba N bc flat l (some ⟨g, 0, none⟩) cap l a b c := by
  obtain ⟨xs0, hl0⟩ := hl0
  have hl : l.ownBlock ≠ some K := fun h => by
    obtain ⟨cs', h'⟩ := own_type hl0 h
    rw [hKB] at h'
    cases h'
    exact hek rfl
  have hW : W.heap.size ≤ w5.heap.size := hgrow.size
  have hwW := KP.low.size
  have hKW : W.heap[K]? = some (.cells cs kt) := (KP.low.block K (ltOf hKB) (fun h => hl h.symm)).trans hKB
  have hrK : (Value.slice ba N bc).ownBlock ≠ some K := fun h => by
    obtain ⟨cs', h'⟩ := own_type hrow h
    rw [hKB] at h'
    cases h'
    exact hrk rfl
  have hK5 : w5.heap[K]? = some (.cells cs kt) := (hgrow.block K (ltOf hKW) (fun e => hrK e.symm)).trans hKW
  have hgt : ∃ cs, w5.heap[g]? = some (.cells cs rt) := own_type hown rfl
  have hgK : g ≠ K := fun h => by
    obtain ⟨cs', h'⟩ := hgt
    rw [h, hK5] at h'
    cases h'
    exact hrk rfl
  have hother : ∀ i, i ≠ K → (w5.setCell ⟨K, o, none⟩ (.slice (some ⟨g, 0, none⟩) (N + 1) cap)).heap[i]? = w5.heap[i]? := fun i hi => heap_setCell_other _ _ _ _ hi
  have hlr : ∀ i, (Value.slice ba N bc).ownBlock = some i → l.ownBlock ≠ some i := fun i h1 h2 => by
    obtain ⟨c1, t1⟩ := own_type hrow h1
    obtain ⟨c2, t2⟩ := own_type hl0 h2
    rw [t1] at t2
    cases t2
    exact KP.et rfl
  have hrt : ∀ i, (Value.slice ba N bc).ownBlock = some i → ∃ cs, W.heap[i]? = some (.cells cs rt) := fun i h1 => by
    obtain ⟨c1, t1⟩ := own_type hrow h1
    exact ⟨c1, (KP.low.block i (ltOf t1) (fun h => hlr i h1 h.symm)).trans t1⟩
  have hmk : ∀ v, MfAt W (fun g => l.ownBlock = some g ∨ w.heap.size ≤ g) e mf v → MfAt (w5.setCell ⟨K, o, none⟩ (.slice (some ⟨g, 0, none⟩) (N + 1) cap)) (fun g => l.ownBlock = some g ∨ w.heap.size ≤ g) e mf v := fun v hv =>
    hv.keep (fun i cs' _ hi => by
      have h1 : i ≠ K := fun h => by rw [h, hKW] at hi; cases hi; exact hek rfl
      rw [hother i h1]
      refine hgrow.block i (ltOf hi) (fun h => ?_)
      obtain ⟨c1, t1⟩ := hrt i h.symm
      rw [t1] at hi
      cases hi
      exact KP.et rfl) (fun _ _ h _ => h)
  have h5 : (w5.setCell ⟨K, o, none⟩ (.slice (some ⟨g, 0, none⟩) (N + 1) cap)).heap.size = w5.heap.size := by simp
  refine ⟨heap_setCell_same w5 K o _ kt _ hK5, ?_, hmk l (mf_of_own KP.row (by omega) (fun g h => .inl h)), hmk a KP.ma.1, hmk b KP.mb.1, hmk c KP.mc.1, ?_, hgrow.os.trans KP.low.os, hgrow.tape.trans KP.low.tape, hgrow.output.trans KP.low.output, by omega, fun i hi hiK hir hil => ?_⟩
  · exact own_setZ hown (by simp [Value.ownBlock, hgK]) _
  · rcases hat with h | h
    · exact .inl h.symm
    · exact .inr ⟨g, rfl, by have : g = W.heap.size := h; omega⟩
  · rw [hother i hiK]
    exact (hgrow.block i (by show i < W.heap.size; omega) (fun e => hir e.symm)).trans (KP.low.block i hi (fun e => hil e.symm))

end Go.Proofs.YtlghcldiboecoaaGreatDoor

/- Disks: files; a step; where a file stands; the files but one. -/
namespace Go.Proofs.YtlghcldiboecoaaGreatDoor
open Go.RowKit

/-- A file: its name, its bytes, how many of them are safe. -/
structure Fl where
  n : ByteArray
  d : ByteArray
  s : Nat

def fcells (L : List Fl) : List Value := L.flatMap fun f => [.string f.n, .string f.d, .int .i64 f.s]
theorem fcells_get {L : List Fl} {i : Nat} {f : Fl} (h : L[i]? = some f) : (fcells L)[i * 3]? = some (.string f.n) ∧ (fcells L)[i * 3 + 1]? = some (.string f.d) ∧ (fcells L)[i * 3 + 2]? = some (.int .i64 f.s) := by
  induction L generalizing i with
  | nil => simp at h
  | cons x l ih =>
    cases i with
    | zero => simp at h; subst h; simp [fcells]
    | succ i =>
      have := ih (i := i) (by simpa using h)
      rw [show (i + 1) * 3 = i * 3 + 3 by omega]
      simpa [fcells] using this

theorem fcells_add (L : List Fl) (f : Fl) : fcells (L ++ [f]) = fcells L ++ [.string f.n, .string f.d, .int .i64 f.s] := by simp [fcells]
theorem fcells_set {L : List Fl} {i : Nat} {f g : Fl} (h : L[i]? = some f) : fcells (L.set i g) = (((fcells L).set (i * 3) (.string g.n)).set (i * 3 + 1) (.string g.d)).set (i * 3 + 2) (.int .i64 g.s) := by
  induction L generalizing i with
  | nil => simp at h
  | cons x l ih =>
    cases i with
    | zero => simp [fcells]
    | succ i =>
      have := ih (i := i) (by simpa using h)
      rw [show (i + 1) * 3 = i * 3 + 3 by omega]
      simp only [fcells, List.set_cons_succ, List.flatMap_cons] at *
      rw [this]
      simp

/-- The files but that of a name. -/
def wo (L : List Fl) (n : ByteArray) : List Fl := L.filter fun f => decide (f.n ≠ n)

theorem wo_take_succ {L : List Fl} {n : ByteArray} {i : Nat} {f : Fl} (h : L[i]? = some f) : wo (L.take (i + 1)) n = if f.n ≠ n then wo (L.take i) n ++ [f] else wo (L.take i) n := by
  obtain ⟨hi, rfl⟩ := List.getElem?_eq_some_iff.1 h
  rw [List.take_succ_eq_append_getElem hi, wo, List.filter_append]
  by_cases hn : L[i].n = n
  · simp [hn, wo]
  · simp [hn, wo]

/-- How many steps are left behind one. -/
def dec (left : Int) : Int := if 0 < left then left - 1 else left

theorem Tryz.info91 : (Tryz.prog.info? 91).map (fun i => (i.zero, i.size, i.bytes)) = some (some (.agg #[.string ⟨#[]⟩, .string ⟨#[]⟩, .int .i64 0]), 3, 40) := by kernel_rfl
theorem Tryz.info93 : (Tryz.prog.info? 93).map (fun i => (i.zero, i.size, i.bytes)) = some (some (.agg #[.string ⟨#[]⟩, .string ⟨#[]⟩, .int .i64 0]), 3, 40) := by kernel_rfl

theorem str_ne {a b : ByteArray} (h : ¬ a = b) : (a.toList == b.toList) = false := by
  rw [beq_eq_false_iff_ne, Lib.toList_data, Lib.toList_data]
  intro e
  apply h
  cases a; cases b
  simp at e
  rw [e]

theorem str_eq {a b : ByteArray} (h : a = b) : (a.toList == b.toList) = true := by rw [h]; simp

theorem gr_set {w : World} {B j : Nat} (u : Value) : w.grownBy (w.setCell ⟨B, j, none⟩ u) (some B) :=
  ⟨rfl, rfl, rfl, by simp, fun i hi hn => heap_setCell_other _ _ _ _ (fun e => hn (by rw [e]))⟩

theorem dstep_any (w : World) (SB : Nat) (fv : Value) (left : Int) (hb : w.heap[SB]? = some (.cells #[fv, .int .i64 left] 82)) (h0 : -1 ≤ left) (h1 : left ≤ 9223372036854775807) :
    Calls Tryz.prog 60 #[.pointer (some ⟨SB, 0, none⟩)] w fun e w' => e = .returned (.bool (decide (left ≠ 0))) ∧ w'.heap[SB]? = some (.cells #[fv, .int .i64 (dec left)] 82) ∧ w.grownBy w' (some SB) := by
  have c1 := cellOf (j := 1) hb rfl
  have z1 := frozen_of_row w SB 1 _ 82 hb
  have HB := hid hb
  have HS := hid (heap_setCell_same w SB 1 _ 82 (.int .i64 (left - 1)) hb)
  have HG := hid (gr_set (w := w) (B := SB) (j := 1) (.int .i64 (left - 1)))
  clear hb
  by_cases hl : left = 0
  · subst hl
    go_enter Tryz.func60, Tryz.ntmps60
    go_wp2
    all_goals go_ret
    all_goals exact ⟨rfl, by simpa [dec] using HB.out, gr_below (Below.refl _ _)⟩
  · by_cases hp : left > 0
    · have hw : IntKind.i64.wrap (left - 1) = left - 1 := by rw [IntKind.wrap_i64]; omega
      go_enter Tryz.func60, Tryz.ntmps60
      go_wp2
      all_goals go_ret
      all_goals exact ⟨by simp [hl], by have := HS.out; simpa [dec, show (0 : Int) < left from hp] using this, HG.out⟩
    · go_enter Tryz.func60, Tryz.ntmps60
      go_wp2
      all_goals go_ret
      all_goals exact ⟨by first | (simp [hl]; done) | simp, by have := HB.out; simpa [dec, show ¬ (0 : Int) < left by omega] using this, gr_below (Below.refl _ _)⟩

set_option maxHeartbeats 2000000 in
theorem find_any (w : World) (SB : Nat) (fa : Option Addr) (fc : Nat) (left : Int) (L : List Fl) (n : ByteArray) (hb : w.heap[SB]? = some (.cells #[.slice fa L.length fc, .int .i64 left] 82)) (hrow : w.ownsRow 0 91 3 (.slice fa L.length fc) L.length (fcells L)) (hL : L.length ≤ 100000000) :
    Calls Tryz.prog 61 #[.pointer (some ⟨SB, 0, none⟩), .string n] w fun e w' => w' = w ∧ ((e = .returned (.int .i64 (-1)) ∧ ∀ f, f ∈ L → f.n ≠ n) ∨ ∃ (i : Nat) (f : Fl), e = .returned (.int .i64 i) ∧ L[i]? = some f ∧ f.n = n) := by
  have c0 := cellOf (j := 0) hb rfl
  have HROW := hid hrow
  clear hb hrow
  go_enter Tryz.func61, Tryz.ntmps61
  go_wp2
  go_loopw [11] (fun k wr => ∃ i : Nat, k = .int .i64 i ∧ i ≤ L.length ∧ wr = w ∧ Hid (∀ j f, j < i → L[j]? = some f → f.n ≠ n)) (fun k _ => L.length - (intOf k).toNat)
  case atStart => exact ⟨0, rfl, Nat.zero_le _, rfl, fun j f hj => by omega⟩
  case round =>
    obtain ⟨i, rfl, hi, hwr, HN⟩ := hrel
    subst hwr
    by_cases hlt : i < L.length
    · have hltz : (i : Int) < (L.length : Int) := by omega
      obtain ⟨f, hf⟩ : ∃ f, L[i]? = some f := ⟨_, List.getElem?_eq_getElem hlt⟩
      obtain ⟨g, hfa⟩ : ∃ g, fa = some ⟨g, 0, none⟩ := by
        rcases HROW.out.2 with ⟨e, h⟩ | ⟨g, cap, cur, e, _⟩
        · omega
        · cases e; exact ⟨g, rfl⟩
      subst hfa
      have hfc : L.length ≤ fc := by
        rcases HROW.out.2 with ⟨e, h⟩ | ⟨g, cap, cur, e, _, _, hc, _⟩
        · omega
        · cases e; exact hc
      have f0 : wr.cell? ⟨g, i * 3, none⟩ = some (.string f.n) := by
        have := HROW.out.cells (g := g) rfl (i * 3) _ (fcells_get hf).1
        rwa [Addr.add_lit, Nat.zero_add] at this
      by_cases hn : f.n = n
      · have hq := str_eq hn
        go_wp2
        all_goals go_ret
        all_goals exact ⟨rfl, .inr ⟨i, f, rfl, hf, hn⟩⟩
      · have hq := str_ne hn
        go_wp2
        all_goals go_roundw
        all_goals try (case rel => exact ⟨i + 1, by go_num, by omega, by first | rfl | trivial, fun j f' hj hf' => by
          rcases Nat.lt_succ_iff_lt_or_eq.1 hj with h | h
          · exact HN.out j f' h hf'
          · subst h; rw [hf] at hf'; cases hf'; exact hn⟩)
        all_goals try (case measure => simp [intOf]; omega)
    · have hltz : ¬ (i : Int) < (L.length : Int) := by omega
      go_wp2
      all_goals go_ret
      all_goals exact ⟨rfl, .inl ⟨rfl, fun f hf => by
        obtain ⟨j, hj, rfl⟩ := List.getElem_of_mem hf
        exact HN.out j _ (by omega) (List.getElem?_eq_getElem hj)⟩⟩

end Go.Proofs.YtlghcldiboecoaaGreatDoor

/- Disks: the files but one: the program's and the document's. -/
namespace Go.Proofs.YtlghcldiboecoaaGreatDoor
open Go.RowKit

theorem app_below {w W W' : World} {base : Nat} {e : TypeId} {size : Nat} {v v' : Value} {n m : Nat} {xs news : List Value} (h : AppRes W W' base e size v v' n m xs news) (hown : W.ownsRow base e size v n xs) (hb : Below base w W) (hW : base ≤ W.heap.size) : Below base w W' := by
  rcases h.2.2 with ⟨_, hg⟩ | ⟨_, hg⟩
  · exact hb.trans ⟨hg.os, hg.tape, hg.output, hg.size, fun i hi => hg.block i (by omega) (fun e => by have := (hown.lt i e.symm).1; omega)⟩
  · exact hb.trans (hg.mono hW)

theorem cells3_of {w : World} {L : List Fl} {g i : Nat} {f : Fl} {base : Nat} {t : TypeId} {n c : Nat} (h : w.ownsRow base t 3 (.slice (some ⟨g, 0, none⟩) n c) n (fcells L)) (hf : L[i]? = some f) :
    w.cell? ⟨g, i * 3, none⟩ = some (.string f.n) ∧ w.cell? ⟨g, i * 3 + 1, none⟩ = some (.string f.d) ∧ w.cell? ⟨g, i * 3 + 2, none⟩ = some (.int .i64 f.s) := by
  obtain ⟨h0, h1, h2⟩ := fcells_get hf
  have a0 := h.cells (g := g) rfl _ _ h0
  have a1 := h.cells (g := g) rfl _ _ h1
  have a2 := h.cells (g := g) rfl _ _ h2
  rw [Addr.add_lit, Nat.zero_add] at a0 a1 a2
  exact ⟨a0, a1, a2⟩

/-- A row of files that is not empty has a place. -/
theorem row_at {w : World} {base : Nat} {t : TypeId} {fa : Option Addr} {fc n : Nat} {xs : List Value} (h : w.ownsRow base t 3 (.slice fa n fc) n xs) (hn : 0 < n) : ∃ g, fa = some ⟨g, 0, none⟩ ∧ n ≤ fc ∧ g < w.heap.size ∧ base ≤ g := by
  rcases h.2 with ⟨e, h0⟩ | ⟨g, cap, cur, e, hb, hg, hc, _⟩
  · omega
  · cases e; exact ⟨g, rfl, hc, ltOf hg, hb⟩

set_option maxRecDepth 8000 in
set_option maxHeartbeats 4000000 in
theorem without_any (w : World) (SB : Nat) (fa : Option Addr) (fc : Nat) (left : Int) (L : List Fl) (n : ByteArray) (hb : w.heap[SB]? = some (.cells #[.slice fa L.length fc, .int .i64 left] 82)) (hrow : w.ownsRow 0 91 3 (.slice fa L.length fc) L.length (fcells L)) (hL : L.length ≤ 100000000) :
    Calls Tryz.prog 64 #[.pointer (some ⟨SB, 0, none⟩), .string n] w fun e w' => ∃ va vc, e = .returned (.slice va (wo L n).length vc) ∧ w'.ownsRow w.heap.size 91 3 (.slice va (wo L n).length vc) (wo L n).length (fcells (wo L n)) ∧ Below w.heap.size w w' := by
  have c0 := cellOf (j := 0) hb rfl
  have HROW := hid hrow
  clear hb hrow
  obtain ⟨i0, hi0, hz0, hz1, hz2⟩ := info_parts Tryz.info91
  go_enter Tryz.func64, Tryz.ntmps64
  go_wp2
  clear c0
  go_loopw [5, 13] (fun v k wr => ∃ (i : Nat) (va : Option Addr) (vc : Nat), v = .slice va (wo (L.take i) n).length vc ∧ k = .int .i64 i ∧ i ≤ L.length ∧ Hid (Below w.heap.size w wr) ∧ Hid (wr.ownsRow w.heap.size 91 3 (.slice va (wo (L.take i) n).length vc) (wo (L.take i) n).length (fcells (wo (L.take i) n)))) (fun _ k _ => L.length - (intOf k).toNat)
  case atStart => exact ⟨0, none, 0, rfl, rfl, Nat.zero_le _, Below.refl _ _, World.ownsRow_nil _ _ _ _⟩
  case round =>
    obtain ⟨i, va, vc, rfl, rfl, hi, HB, HV⟩ := hrel
    by_cases hlt : i < L.length
    · have hltz : (i : Int) < (L.length : Int) := by omega
      obtain ⟨f, hf⟩ : ∃ f, L[i]? = some f := ⟨_, List.getElem?_eq_getElem hlt⟩
      obtain ⟨g, hfa, hfc, hgw, _⟩ := row_at HROW.out (by omega)
      subst hfa
      obtain ⟨q0, q1, q2⟩ := cells3_of HROW.out hf
      have f0 := (HB.out.cell (p := ⟨g, i * 3, none⟩) hgw).trans q0
      have f1 := (HB.out.cell (p := ⟨g, i * 3 + 1, none⟩) hgw).trans q1
      have f2 := (HB.out.cell (p := ⟨g, i * 3 + 2, none⟩) hgw).trans q2
      clear q0 q1 q2
      have hwl : (wo (L.take i) n).length ≤ L.length := Nat.le_trans (List.length_filter_le _ _) (by rw [List.length_take]; omega)
      have HT := hid (wo_take_succ (n := n) hf)
      have HB1 := hid (HB.out.trans ((below1 wr (.cells #[.string f.n, .string f.d, .int .i64 f.s] 91)).mono HB.out.size))
      have HN1 := hid (heap_alloc_new wr (.cells #[.string f.n, .string f.d, .int .i64 f.s] 91))
      have d0 := cellOf (j := 0) HN1.out rfl
      have d1 := cellOf (j := 1) HN1.out rfl
      have d2 := cellOf (j := 2) HN1.out rfl
      have HV1 := hid (HV.out.alloc (.cells #[.string f.n, .string f.d, .int .i64 f.s] 91))
      by_cases hn : f.n = n
      · have hq := str_eq hn
        have HT1 : Hid (wo (L.take (i + 1)) n = wo (L.take i) n) := by show _ = _; rw [HT.out, if_neg (by simp [hn])]
        clear hn HT
        go_wp2
        all_goals go_roundw
        all_goals try (case rel => exact ⟨i + 1, va, vc, by rw [HT1.out], by go_num, by omega, HB1, by show World.ownsRow _ _ _ _ _ _ _; rw [HT1.out]; exact HV1.out⟩)
        all_goals try (case measure => simp [intOf]; omega)
      · have hq := str_ne hn
        have HT1 : Hid (wo (L.take (i + 1)) n = wo (L.take i) n ++ [f]) := by show _ = _; rw [HT.out, if_pos (by simp [hn])]
        have HB2 := hid (HB1.out.trans ((below1 (wr.alloc (.cells #[.string f.n, .string f.d, .int .i64 f.s] 91)) (.cells #[.string f.n, .string f.d, .int .i64 f.s] 91)).mono HB1.out.size))
        have HV2 := hid (HV1.out.alloc (.cells #[.string f.n, .string f.d, .int .i64 f.s] 91))
        have HN2 : Hid (((wr.alloc (.cells #[.string f.n, .string f.d, .int .i64 f.s] 91)).alloc (.cells #[.string f.n, .string f.d, .int .i64 f.s] 91)).heap[wr.heap.size + 1]? = some (.cells #[.string f.n, .string f.d, .int .i64 f.s] 91)) := by
          have h := heap_alloc_new (wr.alloc (.cells #[.string f.n, .string f.d, .int .i64 f.s] 91)) (.cells #[.string f.n, .string f.d, .int .i64 f.s] 91)
          rw [show (wr.alloc (.cells #[.string f.n, .string f.d, .int .i64 f.s] 91)).heap.size = wr.heap.size + 1 by simp] at h
          exact h
        go_wp2_with (at_builtin; refine wpList_append_keep _ rfl _ _ 80 rfl w.heap.size 91 i0 (.agg #[.string ⟨#[]⟩, .string ⟨#[]⟩, .int .i64 0]) 3 40 Tryz.underlying80 hi0 hz0 hz1 hz2 rfl (by decide) _ _ (fcells (wo (L.take i) n)) rfl HV2.out ⟨wr.heap.size + 1, 0, none⟩ 1 1 [.string f.n, .string f.d, .int .i64 f.s] rfl rfl (World.news_of_block HN2.out) (by intro u hu; simp at hu; rcases hu with rfl | rfl | rfl <;> rfl) (by omega) (by unfold maxLen; omega) (by omega) HB2.out.size ?_)
        intro V w2 hr
        have HBX := hid (app_below hr HV2.out HB2.out HB2.out.size)
        obtain ⟨va', vc', hV⟩ := own_shapeZ hr.1
        subst hV
        have HO := hid hr.1
        clear hr HN2 HV2 HB2
        go_wp2
        all_goals go_roundw
        all_goals try (case rel => exact ⟨i + 1, va', vc', by rw [HT1.out, List.length_append]; rfl, by go_num, by omega, HBX, by show World.ownsRow _ _ _ _ _ _ _; rw [HT1.out, List.length_append, fcells_add]; exact HO.out⟩)
        all_goals try (case measure => simp [intOf]; omega)
    · have hltz : ¬ (i : Int) < (L.length : Int) := by omega
      have hie : i = L.length := by omega
      subst hie
      have HT : Hid (L.take L.length = L) := by show _ = _; simp
      go_wp2
      all_goals go_ret
      all_goals (rw [HT.out] at HV; exact ⟨va, vc, rfl, HV.out, HB.out⟩)

end Go.Proofs.YtlghcldiboecoaaGreatDoor
