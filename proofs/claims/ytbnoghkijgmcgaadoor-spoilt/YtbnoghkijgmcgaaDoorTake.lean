/- Walks of what is read. -/
import Derived.Test.YtbnoghkijgmcgaaDoorRep
import Derived.Deep.RegionWith
namespace Go.Proofs.YtbnoghkijgmcgaaDoor
open Go.RowKit

/-- The bytes l lie where the slice v says. -/
def BsAt (w : World) (v : Value) (l : List UInt8) : Prop := ∃ b off cap, v = .slice (some ⟨b, off, none⟩) l.length cap ∧ l.length ≤ cap ∧ b < w.heap.size ∧ Bytes w b off l

theorem BsAt.below {B : Nat} {w w' : World} {v : Value} {l : List UInt8} (h : BsAt w v l) (hb : Below B w w') (hB : w.heap.size ≤ B) : BsAt w' v l := by
  obtain ⟨b, off, cap, e, hc, hlt, hby⟩ := h
  exact ⟨b, off, cap, e, hc, Nat.lt_of_lt_of_le hlt hb.size, fun i hi => (hb.cell (p := ⟨b, off + i, none⟩) (Nat.lt_of_lt_of_le hlt hB)).trans (hby i hi)⟩

theorem Bytes.drop {w : World} {b off : Nat} {l : List UInt8} (h : Bytes w b off l) (n : Nat) : Bytes w b (off + n) (l.drop n) := fun i hi => by
  rw [List.length_drop] at hi
  rw [List.getElem_drop, Nat.add_assoc]
  exact h (n + i) (by omega)

theorem Bytes.take {w : World} {b off : Nat} {l : List UInt8} (h : Bytes w b off l) (n : Nat) : Bytes w b off (l.take n) := fun i hi => by
  rw [List.length_take] at hi
  rw [List.getElem_take]
  exact h i (by omega)

/-- What is left behind n bytes, as the slice that Go makes of it. -/
theorem BsAt.tail1 {w : World} {b off cap : Nat} {l : List UInt8} (hcap : l.length ≤ cap) (hlt : b < w.heap.size) (n : Nat) (hn : n ≤ l.length) (he : cap = n) :
    BsAt w (.slice (some ⟨b, off, none⟩) (l.length - n) 0) (l.drop n) := by
  have h0 : l.drop n = [] := List.drop_eq_nil_of_le (by omega)
  rw [h0, show l.length - n = 0 by omega]
  exact ⟨b, off, 0, rfl, Nat.le_refl _, hlt, fun i hi => by simp at hi⟩

theorem BsAt.tail2 {w : World} {b off cap : Nat} {l : List UInt8} (hcap : l.length ≤ cap) (hb : Bytes w b off l) (hlt : b < w.heap.size) (n : Nat) :
    BsAt w (.slice (some ⟨b, off + n, none⟩) (l.length - n) (cap - n)) (l.drop n) :=
  ⟨b, off + n, cap - n, by rw [List.length_drop], by rw [List.length_drop]; omega, hlt, hb.drop n⟩

/-- .. in one word. -/
theorem BsAt.tail {w : World} {b off cap : Nat} {l : List UInt8} (hcap : l.length ≤ cap) (hb : Bytes w b off l) (hlt : b < w.heap.size) (n : Nat) (hn : n ≤ l.length) :
    BsAt w (if cap = n then .slice (some ⟨b, off, none⟩) (l.length - n) 0 else .slice (some ⟨b, off + n, none⟩) (l.length - n) (cap - n)) (l.drop n) := by
  split
  · exact BsAt.tail1 hcap hlt n hn ‹_›
  · exact BsAt.tail2 hcap hb hlt n

/-- Wherever bv reads as l, rv reads as what is left. -/
def Tail (bv : Value) (l : List UInt8) (rv : Value) (rest : List UInt8) : Prop := ∀ W, BsAt W bv l → BsAt W rv rest

theorem Tail.refl (bv : Value) (l : List UInt8) : Tail bv l bv l := fun _ h => h
theorem Tail.trans {a b c : Value} {l m n : List UInt8} (h : Tail a l b m) (k : Tail b m c n) : Tail a l c n := fun W hW => k W (h W hW)

theorem Tail.cut (b off cap : Nat) (l : List UInt8) (n : Nat) (hn : n ≤ l.length) :
    Tail (.slice (some ⟨b, off, none⟩) l.length cap) l (if cap = n then .slice (some ⟨b, off, none⟩) (l.length - n) 0 else .slice (some ⟨b, off + n, none⟩) (l.length - n) (cap - n)) (l.drop n) := by
  intro W h
  obtain ⟨b', off', cap', e, hc, hlt, hb⟩ := h
  simp only [Value.slice.injEq, Option.some.injEq, Addr.mk.injEq, and_true, true_and] at e
  obtain ⟨⟨rfl, rfl⟩, rfl⟩ := e
  exact BsAt.tail hc hb hlt n hn

theorem below_drew {B : Nat} (w : World) : Below B w w.drew := (Below.refl B w).drew

def countEnd (bv : Value) (l : List UInt8) (most : Nat) (e : Ending) : Prop :=
  match Orch.count l most with
  | none => e = .returned (.tuple #[.int .i64 0, .slice none 0 0, .bool false])
  | some (n, rest) => ∃ v, e = .returned (.tuple #[.int .i64 n, v, .bool true]) ∧ Tail bv l v rest

set_option maxHeartbeats 400000 in
theorem takeCount_any (w : World) (bv : Value) (l : List UInt8) (hl : l.length ≤ 1000) (hbv : BsAt w bv l) (most : Nat) (hm : most ≤ 1000) :
    Calls Tryd.prog 61 #[bv, .int .i64 most] w fun e w' => countEnd bv l most e ∧ Below w.heap.size w w' := by
  obtain ⟨b, off, cap, rfl, hcap, hlt, hb⟩ := hbv
  unfold countEnd Orch.count
  by_cases h4 : l.length < 4
  · simp only [if_pos h4]
    have h4z : (l.length : Int) < 4 := by omega
    generalize l.length = k at *
    clear hb
    go_enter Tryd.func61, Tryd.ntmps61
    go_wp2
    go_ret3
    exact ⟨rfl, Below.refl _ _⟩
  · simp only [if_neg h4]
    have cU := unsigned_any w b off 4 cap (l.take 4) (by rw [List.length_take]; omega) (by omega) (hb.take 4)
    have h4z : ¬ (l.length : Int) < 4 := by omega
    have HT1 : Hid (cap = 4 → Tail (.slice (some ⟨b, off, none⟩) l.length 4) l (.slice (some ⟨b, off, none⟩) (l.length - 4) 0) (l.drop 4)) := fun he => by
      have := Tail.cut b off cap l 4 (by omega)
      rwa [if_pos he, he] at this
    have HT2 : Hid (¬ cap = 4 → Tail (.slice (some ⟨b, off, none⟩) l.length cap) l (.slice (some ⟨b, off + 4, none⟩) (l.length - 4) (cap - 4)) (l.drop 4)) := fun he => by
      have := Tail.cut b off cap l 4 (by omega)
      rwa [if_neg he] at this
    have hX : Orch.uns (l.take 4) < 4294967296 := by
      have := Orch.uns_lt (l.take 4)
      rw [List.length_take] at this
      rw [show min 4 l.length = 4 by omega] at this
      exact this
    clear hb
    generalize Orch.uns (l.take 4) = X at *
    generalize l.drop 4 = L at *
    by_cases hu : most < X
    · rw [if_pos hu]
      have huz : (most : Int) < X := by omega
      clear HT1 HT2
      generalize l.length = k at *
      go_enter Tryd.func61, Tryd.ntmps61
      go_wp2_with (go_at_call 50; refine cU.mono ?_; rintro e w' ⟨rfl, rfl⟩)
      go_ret3
      exact ⟨rfl, Below.refl _ _⟩
    · rw [if_neg hu]
      have huz : ¬ (most : Int) < X := by omega
      generalize l.length = k at *
      go_enter Tryd.func61, Tryd.ntmps61
      go_wp2_with (go_at_call 50; refine cU.mono ?_; rintro e w' ⟨rfl, rfl⟩)
      go_region
      all_goals go_wp2
      all_goals go_ret3
      all_goals first | exact ⟨⟨_, rfl, HT1.out ‹_›⟩, below_drew _⟩ | exact ⟨⟨_, rfl, HT2.out ‹_›⟩, below_drew _⟩

/-- The world as a letter: what is known of it is all that is kept. -/
theorem wp_gen {P : Program} {c : Code} {Q : Exit → Act → World → Prop} {a : Act} {w : World} (F : World → Prop) (hF : F w) (h : ∀ W, F W → Code.wp P c Q a W) : Code.wp P c Q a w := h w hF

theorem cellOf {W : World} {g j : Nat} {cs : Array Value} {t : TypeId} {fr : Nat × Nat} {u : Value} (h : W.heap[g]? = some (.cells cs t fr)) (hu : cs[j]? = some u) : W.cell? ⟨g, j, none⟩ = some u := by
  rw [cell_of_row W g j cs t fr h]; exact hu
theorem frozenOf {W : World} {g j : Nat} {cs : Array Value} {t : TypeId} (h : W.heap[g]? = some (.cells cs t (0, 0))) : W.frozen? ⟨g, j, none⟩ = false := by simp [World.frozen?, h]
theorem ltOf {W : World} {g : Nat} {o : Obj} (h : W.heap[g]? = some o) : g < W.heap.size := (Array.getElem?_eq_some_iff.1 h).1

theorem new3 (w : World) (o0 o1 o2 : Obj) : (((w.alloc o0).alloc o1).alloc o2).heap[w.heap.size]? = some o0 ∧ (((w.alloc o0).alloc o1).alloc o2).heap[w.heap.size + 1]? = some o1 ∧ (((w.alloc o0).alloc o1).alloc o2).heap[w.heap.size + 1 + 1]? = some o2 := by
  refine ⟨?_, ?_, ?_⟩
  · rw [Below.heap_alloc _ _ _ (by simp; omega), Below.heap_alloc _ _ _ (by simp)]; exact heap_alloc_new w o0
  · rw [Below.heap_alloc _ _ _ (by simp)]
    have := heap_alloc_new (w.alloc o0) o1
    simpa using this
  · have := heap_alloc_new ((w.alloc o0).alloc o1) o2
    simpa using this

theorem new2 (w : World) (o0 o1 : Obj) : ((w.alloc o0).alloc o1).heap[w.heap.size]? = some o0 ∧ ((w.alloc o0).alloc o1).heap[w.heap.size + 1]? = some o1 := by
  refine ⟨?_, ?_⟩
  · rw [Below.heap_alloc _ _ _ (by simp)]; exact heap_alloc_new w o0
  · have := heap_alloc_new (w.alloc o0) o1
    simpa using this

section
variable {valid : ByteArray → Bool} {Tabs : World → Prop}

/-- fits, at whatever shape. -/
theorem fits_any (U : Utf valid Tabs) (w : World) (hT : Tabs w) {k : Nat} (t : Orch.Ty) (hok : okT (k + 1) t) (pa : Option Addr) (pc : Nat) (v : Orch.V) (la : Option Addr) (lc : Nat) :
    Calls Tryd.prog 47 #[tval t.l (.slice pa t.ps.length pc), vval v (.slice la v.l.length lc)] w fun e w' => e = .returned (.bool (Orch.fits valid t v)) ∧ Below w.heap.size w w' := by
  unfold Orch.fits
  rcases letters_shape hok.1 with h | h | h | h
  · simp only [tval, h]; exact fits_0 w _ _ _ _ _ _ _ _ _ _ _ _ _ _
  · simp only [tval, h]; exact fits_1 U w hT _ _ _ _ _ _ _ _ _ _ _ _ _ _
  · simp only [tval, h]; exact fits_2 w _ _ _ _ _ _ _ _ _ _ _ _ _ _
  · simp only [tval, h]; exact fits_3 w _ _ _ _ _ _ _ _ _ _ _ _ _ _

/-- A value that was not read: whatever it is. -/
def noneEnd (e : Ending) : Prop := ∃ (n : Int) (s : ByteArray) (a a' : Option Addr) (m c m' c' : Nat), e = .returned (.tuple #[vv n s (.slice a m c), .slice a' m' c', .bool false])

end
end Go.Proofs.YtbnoghkijgmcgaaDoor
