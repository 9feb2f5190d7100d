/- A node out of the fields of a file of the second version. -/
import Derived.Test.YtlghcldiboecoaaDoorFHead
import Derived.BigRegion
import Derived.Test.YtlghcldiboecoaaDoorEnc
import Derived.Test.YtlghcldiboecoaaDoorCodedW
set_option linter.unusedVariables false
namespace Go.Proofs.YtlghcldiboecoaaDoor
open Go.RowKit

abbrev ndv (p d t : ByteArray) (m c v : Int) : Value := .agg #[.string p, .string d, .string t, .int .i64 m, .int .i64 c, .int .i64 v]

set_option maxRecDepth 8000 in
set_option maxHeartbeats 4000000 in
theorem node_2 (w : World) (n : Int) (s : ByteArray) (g cap : Nat) (hcap : 6 ≤ cap) (hg : g < w.heap.size) (p d t : ByteArray) (m c v : Int)
    (k0 : w.cell? ⟨g, 1, none⟩ = some (.string p)) (k1 : w.cell? ⟨g, 4, none⟩ = some (.string d)) (k2 : w.cell? ⟨g, 7, none⟩ = some (.string t))
    (k3 : w.cell? ⟨g, 9, none⟩ = some (.int .i64 m)) (k4 : w.cell? ⟨g, 12, none⟩ = some (.int .i64 c)) (k5 : w.cell? ⟨g, 15, none⟩ = some (.int .i64 v)) :
    Calls Tryd.prog 52 #[.int .i64 2, vv n s (.slice (some ⟨g, 0, none⟩) 6 cap)] w fun e w' => e = .returned (ndv p d t m c v) ∧ Below w.heap.size w w' := by
  have hb := below2 w (.cells #[.int .i64 n, .string s, .slice (some ⟨g, 0, none⟩) 6 cap] 31) (.cells #[.string ⟨#[]⟩, .string ⟨#[]⟩, .string ⟨#[]⟩, .int .i64 0, .int .i64 0, .int .i64 0] 69)
  obtain ⟨n0, n1⟩ := new2 w (.cells #[.int .i64 n, .string s, .slice (some ⟨g, 0, none⟩) 6 cap] 31) (.cells #[.string ⟨#[]⟩, .string ⟨#[]⟩, .string ⟨#[]⟩, .int .i64 0, .int .i64 0, .int .i64 0] 69)
  have q0 := (hb.cell (p := ⟨g, 1, none⟩) hg).trans k0
  have q1 := (hb.cell (p := ⟨g, 4, none⟩) hg).trans k1
  have q2 := (hb.cell (p := ⟨g, 7, none⟩) hg).trans k2
  have q3 := (hb.cell (p := ⟨g, 9, none⟩) hg).trans k3
  have q4 := (hb.cell (p := ⟨g, 12, none⟩) hg).trans k4
  have q5 := (hb.cell (p := ⟨g, 15, none⟩) hg).trans k5
  have HB := hide hb
  have N1 := hide n1
  clear k0 k1 k2 k3 k4 k5 hb n0 n1
  go_enter Tryd.func52, Tryd.ntmps52
  go_wp2_with (go_at_call 39; refine (hasNotes_any _ _).mono ?_; rintro e w1 ⟨rfl, rfl⟩)
  refine wp_gen (fun W => W.cell? ⟨g, 1, none⟩ = some (.string p) ∧ W.cell? ⟨g, 4, none⟩ = some (.string d) ∧ W.cell? ⟨g, 7, none⟩ = some (.string t) ∧ W.cell? ⟨g, 9, none⟩ = some (.int .i64 m) ∧ W.cell? ⟨g, 12, none⟩ = some (.int .i64 c) ∧ W.cell? ⟨g, 15, none⟩ = some (.int .i64 v) ∧
    W.heap[w.heap.size + 1]? = some (.cells #[.string ⟨#[]⟩, .string ⟨#[]⟩, .string ⟨#[]⟩, .int .i64 0, .int .i64 0, .int .i64 0] 69) ∧ Below w.heap.size w W) ⟨q0, q1, q2, q3, q4, q5, N1.out, HB.out⟩ ?_
  clear q0 q1 q2 q3 q4 q5 HB N1
  rintro W ⟨q0, q1, q2, q3, q4, q5, hn1, hbW⟩
  have d0 := cellOf (j := 0) hn1 rfl
  have d1 := cellOf (j := 1) hn1 rfl
  have d2 := cellOf (j := 2) hn1 rfl
  have d3 := cellOf (j := 3) hn1 rfl
  have d4 := cellOf (j := 4) hn1 rfl
  have d5 := cellOf (j := 5) hn1 rfl
  have f0 := frozenOf (j := 0) hn1
  have f1 := frozenOf (j := 1) hn1
  have f2 := frozenOf (j := 2) hn1
  have f3 := frozenOf (j := 3) hn1
  have f4 := frozenOf (j := 4) hn1
  have f5 := frozenOf (j := 5) hn1
  have HBW := hide hbW
  clear hbW hn1
  have hne : ¬ g = w.heap.size + 1 := by omega
  have HG : Hid (w.heap.size ≤ w.heap.size + 1) := Nat.le_succ _
  generalize w.heap.size + 1 = G at *
  go_region
  all_goals go_wp2
  all_goals exact bodyPost_ret (v := ndv p d t m c v) (by simp [results, Tryd.results52, go_sem, d0, d1, d2, d3, d4, d5]) rfl ⟨rfl, ((((((HBW.out.setCell (p := ⟨G, 0, none⟩) HG.out _).setCell (p := ⟨G, 1, none⟩) HG.out _).setCell (p := ⟨G, 2, none⟩) HG.out _).setCell (p := ⟨G, 3, none⟩) HG.out _).setCell (p := ⟨G, 4, none⟩) HG.out _).setCell (p := ⟨G, 5, none⟩) HG.out _).drew⟩
end Go.Proofs.YtlghcldiboecoaaDoor

/- The fields of a node, in a file of the second version. -/
set_option linter.unusedVariables false
namespace Go.Proofs.YtlghcldiboecoaaDoor
open Go.RowKit

theorem nodeVs {W : World} {g : Nat} {S : Nat → Prop} (p d t : ByteArray) (m c v : Int) (hS : S g)
    (h : W.heap[g]? = some (.cells #[.int .i64 0, .string p, .slice none 0 0, .int .i64 0, .string d, .slice none 0 0, .int .i64 0, .string t, .slice none 0 0, .int .i64 m, .string ⟨#[]⟩, .slice none 0 0, .int .i64 c, .string ⟨#[]⟩, .slice none 0 0, .int .i64 v, .string ⟨#[]⟩, .slice none 0 0] 31)) :
    VsAt W S [Orch.sv p, Orch.sv d, Orch.sv t, Orch.nv m, Orch.nv c, Orch.nv v] (.slice (some ⟨g, 0, none⟩) 6 6) := by
  refine VsAt.row [(Orch.sv p, .slice none 0 0), (Orch.sv d, .slice none 0 0), (Orch.sv t, .slice none 0 0), (Orch.nv m, .slice none 0 0), (Orch.nv c, .slice none 0 0), (Orch.nv v, .slice none 0 0)] g 6 (by simp) (by simp) hS ?_ ?_
  · intro j u hu
    refine cellOf h ?_
    rw [← hu, ← Array.getElem?_toList]
    rfl
  · intro q hq
    simp only [List.mem_cons, List.mem_nil_iff, or_false] at hq
    rcases hq with rfl | rfl | rfl | rfl | rfl | rfl <;> exact .nil _ _

set_option maxRecDepth 8000 in
set_option maxHeartbeats 4000000 in
theorem fields_2 (w : World) (x : Orch.Node) :
    Calls Tryd.prog 57 #[.int .i64 2, ndv x.path x.data x.note x.made x.changed x.version] w fun e w' => (∃ lv, e = .returned (vval (Orch.fields 2 x) lv) ∧ VsAt w' (fun b => w.heap.size ≤ b ∧ b < w'.heap.size) (Orch.fields 2 x).l lv) ∧ Below w.heap.size w w' := by
  obtain ⟨p, d, t, m, c, v⟩ := x
  simp only
  obtain ⟨n0, n1⟩ := new2 w (.cells #[.string p, .string d, .string t, .int .i64 m, .int .i64 c, .int .i64 v] 69) (.cells #[.int .i64 0, .string ⟨#[]⟩, .slice none 0 0] 31)
  have k0 := cellOf (j := 0) n0 rfl
  have k1 := cellOf (j := 1) n0 rfl
  have k2 := cellOf (j := 2) n0 rfl
  have k3 := cellOf (j := 3) n0 rfl
  have k4 := cellOf (j := 4) n0 rfl
  have k5 := cellOf (j := 5) n0 rfl
  have hb := below2 w (.cells #[.string p, .string d, .string t, .int .i64 m, .int .i64 c, .int .i64 v] 69) (.cells #[.int .i64 0, .string ⟨#[]⟩, .slice none 0 0] 31)
  have N1 := hide n1
  have HB := hide hb
  clear n0 n1 hb
  go_enter Tryd.func57, Tryd.ntmps57
  go_wp2_with (go_at_call 39; refine (hasNotes_any _ _).mono ?_; rintro e w1 ⟨rfl, rfl⟩)
  have hs : (w.alloc (.cells #[.string p, .string d, .string t, .int .i64 m, .int .i64 c, .int .i64 v] 69)).heap.size = w.heap.size + 1 := by simp
  obtain ⟨r1, r2⟩ := new2 (w.alloc (.cells #[.string p, .string d, .string t, .int .i64 m, .int .i64 c, .int .i64 v] 69)) (.cells #[.int .i64 0, .string ⟨#[]⟩, .slice (some ⟨w.heap.size + 1 + 1, 0, none⟩) 6 6] 31)
    (.cells #[.int .i64 0, .string p, .slice none 0 0, .int .i64 0, .string d, .slice none 0 0, .int .i64 0, .string t, .slice none 0 0, .int .i64 m, .string ⟨#[]⟩, .slice none 0 0, .int .i64 c, .string ⟨#[]⟩, .slice none 0 0, .int .i64 v, .string ⟨#[]⟩, .slice none 0 0] 31)
  rw [hs] at r1 r2
  refine bp_gen (fun X => X.heap[w.heap.size + 1]? = some (.cells #[.int .i64 0, .string ⟨#[]⟩, .slice (some ⟨w.heap.size + 1 + 1, 0, none⟩) 6 6] 31) ∧
    X.heap[w.heap.size + 1 + 1]? = some (.cells #[.int .i64 0, .string p, .slice none 0 0, .int .i64 0, .string d, .slice none 0 0, .int .i64 0, .string t, .slice none 0 0, .int .i64 m, .string ⟨#[]⟩, .slice none 0 0, .int .i64 c, .string ⟨#[]⟩, .slice none 0 0, .int .i64 v, .string ⟨#[]⟩, .slice none 0 0] 31) ∧ Below w.heap.size w X)
    ⟨r1, r2, (below1 w _).trans ((below2 _ _ _).mono (by rw [hs]; omega))⟩ ?_
  clear r1 r2 hs k0 k1 k2 k3 k4 k5 N1 HB
  rintro X ⟨r1, r2, hbX⟩
  have c0 := cellOf (j := 0) r1 rfl
  have c1 := cellOf (j := 1) r1 rfl
  have c2 := cellOf (j := 2) r1 rfl
  have hlt := ltOf r2
  exact bodyPost_ret (v := vv 0 ⟨#[]⟩ (.slice (some ⟨w.heap.size + 1 + 1, 0, none⟩) 6 6)) (by simp [results, Tryd.results57, go_sem, c0, c1, c2]) rfl ⟨⟨_, rfl, nodeVs p d t m c v ⟨by omega, hlt⟩ r2⟩, hbX⟩
end Go.Proofs.YtlghcldiboecoaaDoor

/- The nodes of a tree as bytes. -/
set_option linter.unusedVariables false
namespace Go.Proofs.YtlghcldiboecoaaDoor
open Go.RowKit

def ncell (x : Orch.Node) : List Value := [.string x.path, .string x.data, .string x.note, .int .i64 x.made, .int .i64 x.changed, .int .i64 x.version]

/-- The nodes lie in a slice below block B. -/
def NsAt (w : World) (B : Nat) (v : Value) (ns : List Orch.Node) : Prop :=
  ∃ b off cap, v = .slice (some ⟨b, off, none⟩) ns.length cap ∧ ns.length ≤ cap ∧ b < B ∧ ∀ i (h : i < ns.length) (j : Nat) u, (ncell ns[i])[j]? = some u → w.cell? ⟨b, off + i * 6 + j, none⟩ = some u

theorem NsAt.below {B : Nat} {w w' : World} {v : Value} {ns : List Orch.Node} (h : NsAt w B v ns) (hb : Below B w w') : NsAt w' B v ns := by
  obtain ⟨b, off, cap, e, hc, hlt, hn⟩ := h
  exact ⟨b, off, cap, e, hc, hlt, fun i hi j u hu => (hb.cell (p := ⟨b, off + i * 6 + j, none⟩) hlt).trans (hn i hi j u hu)⟩

/-- The schemas of nodes lie in their variable. -/
def Schemas (w : World) : Prop := ∃ t fr, w.heap[0]? = some (.cells #[.string ⟨#[]⟩, .string ⟨#[40, 116, 98, 56, 56, 52, 41]⟩, .string ⟨#[40, 116, 98, 116, 56, 56, 52, 41]⟩] t fr)

theorem Schemas.below {B : Nat} {w w' : World} (h : Schemas w) (hb : Below B w w') (hB : 1 ≤ B) : Schemas w' := by
  obtain ⟨t, fr, h⟩ := h
  exact ⟨t, fr, (hb.block 0 (by omega)).trans h⟩

/-- The type of a node in a file of the second version. -/
def ty2 : Orch.Ty := .mk ⟨40, 3, 0, 0, 0, false, 41⟩ [.mk ⟨116, 1, 0, 0, 0, true, 0⟩ [], .mk ⟨98, 1, 0, 0, 0, false, 0⟩ [], .mk ⟨116, 1, 0, 0, 0, true, 0⟩ [],
  .mk ⟨56, 0, 8, -9223372036854775808, 9223372036854775807, false, 0⟩ [], .mk ⟨56, 0, 8, -9223372036854775808, 9223372036854775807, false, 0⟩ [], .mk ⟨52, 0, 4, -2147483648, 2147483647, false, 0⟩ []]

theorem parse_ty2 : Orch.parse [40, 116, 98, 116, 56, 56, 52, 41] = some ty2 := by rfl
theorem ok_ty2 : okT 9 ty2 := parse_ok parse_ty2

/-- The bytes of a node. -/
def nb (x : Orch.Node) : List UInt8 := (Orch.put validB 9 [] ty2 (Orch.fields 2 x)).getD []

theorem put_short {x : Orch.V} {t : Orch.Ty} {k : Nat} {out o : List UInt8} (h : Orch.put validB (k + 1) out t x = some o) : o.length ≤ 1000 := by
  unfold Orch.put at h
  split at h
  · split at h
    · cases h
    · split at h
      · injection h with h
        subst h
        assumption
      · cases h
  · cases h

theorem pre_short {xs : List UInt8} {l : List Orch.Node} {k : Nat} (hx : xs.length ≤ 1000) (h : ∀ x, x ∈ l.take k → (nb x).length ≤ 1000) : (xs ++ (l.take k).flatMap nb).length ≤ 1000 + k * 1000 := by
  have aux : ∀ (m : List Orch.Node), (∀ x, x ∈ m → (nb x).length ≤ 1000) → (m.flatMap nb).length ≤ m.length * 1000 := by
    intro m
    induction m with
    | nil => simp
    | cons a m ih =>
      intro hm
      have h1 := hm a (by simp)
      have h2 := ih (fun x hx => hm x (by simp [hx]))
      rw [List.flatMap_cons, List.length_append, List.length_cons]
      omega
  have h1 := aux _ h
  have h2 : (l.take k).length ≤ k := by rw [List.length_take]; omega
  rw [List.length_append]
  omega

theorem et_gen {K : Act → World → Prop} {Q : Exit → Act → World → Prop} {ex : Exit} {a : Act} {w : World} (F : World → Prop) (hF : F w) (h : ∀ W, F W → Exit.then K Q ex a W) : Exit.then K Q ex a w := h w hF

set_option maxRecDepth 8000 in
set_option maxHeartbeats 4000000 in
theorem putNodes_2 {Tabs : World → Prop} (U : Utf validB Tabs) (w : World) (hT : Tabs w) (hL : Table w) (hSc : Schemas w) (base : Nat) (hg : gTop ≤ base) (hbase : base ≤ w.heap.size) (ov : Value) (xs : List UInt8) (hown : w.ownsRow base 5 1 ov xs.length (bcells xs)) (hx : xs.length ≤ 1000)
    (nsv : Value) (ns : List Orch.Node) (hns : NsAt w base nsv ns) (hlen : ns.length ≤ 32) (hok : ∀ x, x ∈ ns → Orch.put validB 9 [] ty2 (Orch.fields 2 x) = some (nb x) ∧ 0 < (nb x).length) :
    Calls Tryd.prog 43 #[ov, .int .i64 2, nsv] w fun e w' => (∃ ov', e = .returned (.tuple #[ov', .bool true]) ∧ w'.ownsRow base 5 1 ov' (xs ++ ns.flatMap nb).length (bcells (xs ++ ns.flatMap nb)) ∧ Outs w w' ov ov') := by
  have hg4 : 4 ≤ base := hg
  obtain ⟨LL, hLL⟩ : ∃ LL, LL = xs ++ ns.flatMap nb := ⟨_, rfl⟩
  rw [← hLL]
  have HLL := hide hLL
  clear hLL
  have HTb : Hid (∀ W, Below base w W → Tabs W) := fun W h => U.kept hg h hT
  have HLb : Hid (∀ W, Below base w W → Table W) := fun W h => hL.below h (by omega)
  have HNb : Hid (∀ W, Below base w W → NsAt W base nsv ns) := fun W h => hns.below h
  have HP : Hid (∀ W, Below base w W → Calls Tryd.prog 19 #[.string ⟨#[40, 116, 98, 116, 56, 56, 52, 41]⟩] W fun e w' => parseRes W w' e (some ty2) ∧ Below W.heap.size W w') := fun W h => by
    have := parse_any W ⟨#[40, 116, 98, 116, 56, 56, 52, 41]⟩ (HLb.out W h)
    exact this
  obtain ⟨st, sf, hs0⟩ := hSc
  have s2 := cellOf (j := 2) hs0 rfl
  obtain ⟨b, off, cap, rfl, hcap, hblt, hcells⟩ := hns
  have HOWN := hide hown
  have HOWNB : Hid (∀ g, ov.ownBlock = some g → base ≤ g ∧ g < w.heap.size) := fun g h => ownBlock_lt hown h
  obtain ⟨oa, oc, rfl⟩ := own_shape hown
  clear hown hT hL hs0
  have HOK := hide hok
  clear hok hcells
  go_enter Tryd.func43, Tryd.ntmps43
  go_wp2_with fail
  refine (HP.out w (Below.refl _ _)).mono ?_
  rintro e w1 ⟨⟨psv, he, hts⟩, hb1⟩
  obtain ⟨pa, pc, rfl⟩ := hts.shape
  have he' : e = .returned (.tuple #[tyv 40 3 0 0 0 false 41 (.slice pa 6 pc), .bool true]) := he
  subst he'
  have hn1 := heap_alloc_new w1 (.cells #[.int .u8 40, .int .i64 3, .int .i64 0, .int .i64 0, .int .i64 0, .bool false, .int .u8 41, .slice pa 6 pc] 62)
  have hs1 : (w1.alloc (.cells #[.int .u8 40, .int .i64 3, .int .i64 0, .int .i64 0, .int .i64 0, .bool false, .int .u8 41, .slice pa 6 pc] 62)).heap.size = w1.heap.size + 1 := by simp
  have hb2 : Below w.heap.size w (w1.alloc (.cells #[.int .u8 40, .int .i64 3, .int .i64 0, .int .i64 0, .int .i64 0, .bool false, .int .u8 41, .slice pa 6 pc] 62)) := hb1.alloc hb1.size _
  have hts2 : TsAt (w1.alloc (.cells #[.int .u8 40, .int .i64 3, .int .i64 0, .int .i64 0, .int .i64 0, .bool false, .int .u8 41, .slice pa 6 pc] 62)) (fun b => w.heap.size ≤ b ∧ b < w1.heap.size) ty2.ps (.slice pa 6 pc) := hts.congr (fun _ h => h) (fun b hb => Below.heap_alloc _ _ _ hb.2)
  have HB2 := hide hb2
  have HTS2 := hide hts2
  have HN2 := hide hn1
  have HO2 := hide (ownsRow_below HOWN.out hb2)
  have HS2 := hide hs1
  have HSW := hide hb1.size
  clear hts he hb1 hb2 hts2 hn1 hs1 s2 HP HOWN
  go_wp2_with fail
  generalize w1.alloc (.cells #[.int .u8 40, .int .i64 3, .int .i64 0, .int .i64 0, .int .i64 0, .bool false, .int .u8 41, .slice pa 6 pc] 62) = w2 at *
  generalize w1.heap.size = G at *
  go_loopw [0, 25] (fun o i wr => ∃ k : Nat, k ≤ ns.length ∧ i = .int .i64 k ∧ Hid (wr.ownsRow base 5 1 o (xs ++ (ns.take k).flatMap nb).length (bcells (xs ++ (ns.take k).flatMap nb))) ∧ Hid (Outs w2 wr (.slice oa xs.length oc) o))
    (fun _ i _ => ns.length - (intOf i).toNat)
  case atStart => exact ⟨0, Nat.zero_le _, rfl, by simpa using HO2, Outs.refl _ _⟩
  case round =>
    obtain ⟨k, hk, rfl, HO, HOUT⟩ := hrel
    have hSZ : w.heap.size ≤ G := HSW.out
    have hlow : Below base w wr := (HB2.out.mono hbase).trans (HOUT.out.low (by have := HB2.out.size; omega) (fun g h => (HOWNB.out g h).1))
    by_cases hlt : k < ns.length
    · have hkz : (k : Int) < (ns.length : Int) := by omega
      obtain ⟨b', off', cap', e', _, _, hc⟩ := HNb.out wr hlow
      simp only [Value.slice.injEq, Option.some.injEq, Addr.mk.injEq] at e'
      obtain ⟨⟨rfl, rfl, _⟩, _, rfl⟩ := e'
      have c0 := hc k hlt 0 _ rfl
      have c1 := hc k hlt 1 _ rfl
      have c2 := hc k hlt 2 _ rfl
      have c3 := hc k hlt 3 _ rfl
      have c4 := hc k hlt 4 _ rfl
      have c5 := hc k hlt 5 _ rfl
      rw [Nat.add_zero] at c0
      have hT8 : wr.heap[G]? = some (.cells #[.int .u8 40, .int .i64 3, .int .i64 0, .int .i64 0, .int .i64 0, .bool false, .int .u8 41, .slice pa 6 pc] 62) := HOUT.out.keep HN2.out (fun h => by have := (HOWNB.out _ h).2; omega)
      have HX := hide (HOK.out ns[k] (List.getElem_mem hlt)).1
      have HXP := hide (HOK.out ns[k] (List.getElem_mem hlt)).2
      have HXL := hide (put_short (HOK.out ns[k] (List.getElem_mem hlt)).1)
      have HNEXT : Hid (xs ++ (ns.take (k + 1)).flatMap nb = (xs ++ (ns.take k).flatMap nb) ++ nb ns[k]) := by
        show _ = _
        rw [List.take_succ_eq_append_getElem hlt, List.flatMap_append, List.append_assoc]
        simp
      have hLL : (xs ++ (ns.take k).flatMap nb).length ≤ 1000 + k * 1000 := pre_short hx (fun x hx => put_short (HOK.out x (List.mem_of_mem_take hx)).1)
      generalize xs ++ (ns.take k).flatMap nb = L at *
      have HLOW := hide hlow
      have HT8 := hide hT8
      obtain ⟨qa, qc, hq⟩ := own_shape HO.out
      subst hq
      clear hc hlow hT8
      generalize hxx : ns[k] = x at *
      obtain ⟨xp, xd, xt, xm, xch, xv⟩ := x
      simp only at c0 c1 c2 c3 c4 c5
      have HXX := hide hxx
      clear hxx
      go_wp2_with fail
      have hnw := heap_alloc_new wr (.cells #[.string xp, .string xd, .string xt, .int .i64 xm, .int .i64 xch, .int .i64 xv] 69)
      have hbw := below1 wr (.cells #[.string xp, .string xd, .string xt, .int .i64 xm, .int .i64 xch, .int .i64 xv] 69)
      have hT9 := (hbw.block _ (ltOf HT8.out)).trans HT8.out
      refine wp_gen (fun W => Below wr.heap.size wr W ∧ W.heap[G]? = some (.cells #[.int .u8 40, .int .i64 3, .int .i64 0, .int .i64 0, .int .i64 0, .bool false, .int .u8 41, .slice pa 6 pc] 62) ∧ W.heap[wr.heap.size]? = some (.cells #[.string xp, .string xd, .string xt, .int .i64 xm, .int .i64 xch, .int .i64 xv] 69)) ⟨hbw, hT9, hnw⟩ ?_
      clear hnw hbw hT9 c0 c1 c2 c3 c4 c5
      rintro W ⟨hbW, hTW, hnW⟩
      have t0 := cellOf (j := 0) hTW rfl
      have t1 := cellOf (j := 1) hTW rfl
      have t2 := cellOf (j := 2) hTW rfl
      have t3 := cellOf (j := 3) hTW rfl
      have t4 := cellOf (j := 4) hTW rfl
      have t5 := cellOf (j := 5) hTW rfl
      have t6 := cellOf (j := 6) hTW rfl
      have t7 := cellOf (j := 7) hTW rfl
      have n0 := cellOf (j := 0) hnW rfl
      have n1 := cellOf (j := 1) hnW rfl
      have n2 := cellOf (j := 2) hnW rfl
      have n3 := cellOf (j := 3) hnW rfl
      have n4 := cellOf (j := 4) hnW rfl
      have n5 := cellOf (j := 5) hnW rfl
      have hszr := HOUT.out.grown.size
      have hs2 := HS2.out
      have hbr : Below base wr W := hbW.mono (by have := HB2.out.size; omega)
      have HVE : Hid (∀ W' lv, Below W.heap.size W W' → VsAt W' (fun b => b < W'.heap.size) (Orch.fields 2 ⟨xp, xd, xt, xm, xch, xv⟩).l lv → Calls Tryd.prog 20 #[tyv 40 3 0 0 0 false 41 (.slice pa 6 pc), vval (Orch.fields 2 ⟨xp, xd, xt, xm, xch, xv⟩) lv] W' fun e w' => (∃ bv, e = .returned (.tuple #[bv, .bool true]) ∧ w'.ownsRow W'.heap.size 5 1 bv (nb ⟨xp, xd, xt, xm, xch, xv⟩).length (bcells (nb ⟨xp, xd, xt, xm, xch, xv⟩))) ∧ Below W'.heap.size W' w') := fun W' lv hb hvs => by
        have hbw' : Below base w W' := HLOW.out.trans (hbr.trans (hb.mono (by have := HB2.out.size; have := hbW.size; omega)))
        have hT' : TsAt W' (fun b => b < W'.heap.size) ty2.ps (.slice pa 6 pc) := HTS2.out.congr (fun b h => by have := hb.size; have := hbW.size; omega) (fun b h => by
          rw [hb.block b (by have := hbW.size; omega), hbW.block b (by omega)]
          exact HOUT.out.grown.block b (by omega) (fun e => by have := (HOWNB.out b e.symm).2; omega))
        have := ve_any U W' (HTb.out W' hbw') ty2 ok_ty2 (fun b => b < W'.heap.size) _ hT' (Orch.fields 2 ⟨xp, xd, xt, xm, xch, xv⟩) lv hvs (fun _ h => h)
        rw [HX.out] at this
        exact this
      have HBW := hide hbW
      have HTW := hide hTW
      have HNW := hide hnW
      have HSZR := hide hszr
      clear hbW hTW hnW hszr hs2 hbr
      go_region_with (first
        | (go_at_call 57
           refine (fields_2 _ ⟨xp, xd, xt, xm, xch, xv⟩).mono ?_
           rintro e w4 ⟨⟨lv, rfl, hvl⟩, hb4⟩
           obtain ⟨la, lc, rfl⟩ := hvl.shape
           have HB4 : Hid (Below W.heap.size W w4) := Below.trans (by first | exact Below.refl _ _ | exact (Below.refl _ _).drew | exact (Below.refl _ _).drew.drew) (hb4.mono (by first | exact Nat.le_refl _))
           have hT4 := (HB4.out.block _ (ltOf HTW.out)).trans HTW.out
           have u0 := cellOf (j := 0) hT4 rfl
           have u1 := cellOf (j := 1) hT4 rfl
           have u2 := cellOf (j := 2) hT4 rfl
           have u3 := cellOf (j := 3) hT4 rfl
           have u4 := cellOf (j := 4) hT4 rfl
           have u5 := cellOf (j := 5) hT4 rfl
           have u6 := cellOf (j := 6) hT4 rfl
           have u7 := cellOf (j := 7) hT4 rfl
           have HVL := hide hvl
           clear hvl hb4 hT4)
        | (go_at_call 20
           refine (HVE.out _ _ (by first | exact HB4.out | exact HB4.out.drew) (by first | exact HVL.out.congr (fun b h => h.2) (fun _ _ => rfl))).mono ?_
           rintro e w5 ⟨⟨bv, rfl, hob⟩, hb5⟩
           have HOB := hide hob
           have HB5 : Hid (Below W.heap.size W w5) := HB4.out.trans (hb5.mono HB4.out.size)
           clear hob hb5))
      all_goals refine et_gen (fun X => Below W.heap.size W X ∧ X.ownsRow w4.heap.size 5 1 bv (nb ⟨xp, xd, xt, xm, xch, xv⟩).length (bcells (nb ⟨xp, xd, xt, xm, xch, xv⟩))) (by first | exact ⟨HB5.out, HOB.out⟩ | exact ⟨HB5.out.drew, HOB.out.drew⟩) ?_
      all_goals
        rintro X ⟨hbX, hoX⟩
        obtain ⟨g5, cap5, rfl, _, _⟩ := own_bytes hoX HXP.out
        have hcX := hoX.cells (g := g5) rfl
        have hbrX : Below wr.heap.size wr X := HBW.out.trans (hbX.mono HBW.out.size)
        have HOX := hide (ownsRow_below HO.out hbrX)
        have hszX := hbrX.size
        have hszr := HSZR.out
        have hs2 := HS2.out
        have HBX := hide hbrX
        have hnl := HXL.out
        have HHX := hide hcX
        have hnlen : (bcells (nb ⟨xp, xd, xt, xm, xch, xv⟩)).length = (nb ⟨xp, xd, xt, xm, xch, xv⟩).length := by simp [bcells]
        have HNN : Hid (∀ u ∈ bcells (nb ⟨xp, xd, xt, xm, xch, xv⟩), u.oneCell' = true) := fun u hu => by
          simp only [bcells, List.mem_map] at hu
          obtain ⟨c, _, rfl⟩ := hu
          rfl
        obtain ⟨i0, hi, hz0, hz1, hz2⟩ := info_parts Tryd.info5
        clear hbX hoX hcX hbrX
        generalize nb ⟨xp, xd, xt, xm, xch, xv⟩ = NB at *
        have HNC : Hid (bcells NB = bcells NB) := rfl
        generalize hNC : bcells NB = NC at HHX HNN hnlen
        replace HNC : Hid (bcells NB = NC) := hNC
        clear hNC
        go_wp2_with (at_builtin; refine wpList_append_own_at _ rfl _ _ 34 rfl base 5 i0 (.int .u8 0) 1 1 Tryd.underlying34 hi hz0 hz1 hz2 rfl (by decide) _ _ _ rfl HOX.out ⟨g5, 0, none⟩ NB.length cap5 NC rfl (by rw [hnlen, Nat.mul_one]) HHX.out HNN.out (by unfold maxLen; omega) (by omega) (by omega) ?_)
        intro v' w6 hown' hgrow _ hat
        have HO6 : Hid (w6.ownsRow base 5 1 v' (xs ++ (ns.take (k + 1)).flatMap nb).length (bcells (xs ++ (ns.take (k + 1)).flatMap nb))) := by
          show World.ownsRow _ _ _ _ _ _ _
          rw [HNEXT.out, List.length_append, bcells_append, HNC.out]
          exact hown'
        have HOUT6 : Hid (Outs w2 w6 (.slice oa xs.length oc) v') := HOUT.out.trans (Outs.from HBX.out ⟨hgrow, by rcases hat with h | h; exact Or.inl h; exact Or.inr ⟨_, h, Nat.le_refl _⟩⟩)
        clear hown' hgrow hat
        go_wp2_with fail
        go_roundw
        case rel => exact ⟨k + 1, by omega, by go_num, HO6, HOUT6⟩
        case measure => first | (simp [intOf]; done) | (simp [intOf]; omega)
    · have hkz : ¬ (k : Int) < (ns.length : Int) := by omega
      have he : ns.take k = ns := List.take_of_length_le (by omega)
      rw [he, ← HLL.out] at HO
      go_wp2
      exact bodyPost_ret (v := .tuple #[u0, .bool true]) (by simp [results, Tryd.results43, go_sem]) rfl ⟨u0, rfl, HO.out, Outs.from HB2.out HOUT.out⟩
end Go.Proofs.YtlghcldiboecoaaDoor

/- The nodes of a file of the second version, read. -/
set_option linter.unusedVariables false
namespace Go.Proofs.YtlghcldiboecoaaDoor
open Go.RowKit

/-- The node of which these are the fields. -/
def nodeOf (v : Orch.V) : Orch.Node :=
  ⟨(v.l.getD 0 (.mk 0 ByteArray.empty [])).s, (v.l.getD 1 (.mk 0 ByteArray.empty [])).s, (v.l.getD 2 (.mk 0 ByteArray.empty [])).s, (v.l.getD 3 (.mk 0 ByteArray.empty [])).n, (v.l.getD 4 (.mk 0 ByteArray.empty [])).n, (v.l.getD 5 (.mk 0 ByteArray.empty [])).n⟩

/-- So many nodes out of bytes; what is left. -/
def rdN : Nat → List UInt8 → Option (List Orch.Node × List UInt8)
  | 0, l => some ([], l)
  | k + 1, l => match vtake validB ty2 l with
    | none => none
    | some (v, rest) => (rdN k rest).map fun r => (nodeOf v :: r.1, r.2)

theorem vtake_six {l : List UInt8} {v : Orch.V} {rest : List UInt8} (h : vtake validB ty2 l = some (v, rest)) : v.l.length = 6 := by
  unfold vtake at h
  cases hq : Orch.take validB 9 ty2 (l.take 1000) with
  | none => rw [hq] at h; cases h
  | some vr =>
    obtain ⟨v', r'⟩ := vr
    rw [hq] at h
    simp only [Option.some.injEq, Prod.mk.injEq] at h
    obtain ⟨rfl, _⟩ := h
    have hq' : (Orch.takeE (Orch.take validB 8) ty2 6 0 (l.take 1000)).map Orch.listV = some (v', r') := hq
    simp only [Option.map_eq_some_iff] at hq'
    obtain ⟨⟨es, r⟩, he, hl⟩ := hq'
    simp only [Orch.listV, Prod.mk.injEq] at hl
    obtain ⟨rfl, _⟩ := hl
    exact Orch.takeE_length _ _ _ _ _ _ _ he

theorem vtake_len {l : List UInt8} {v : Orch.V} {rest : List UInt8} (h : vtake validB ty2 l = some (v, rest)) : rest.length ≤ l.length := by
  unfold vtake at h
  split at h
  · cases h
  · simp only [Option.some.injEq, Prod.mk.injEq] at h
    obtain ⟨_, rfl⟩ := h
    rw [List.length_drop]
    omega

theorem six {w : World} {S : Nat → Prop} {v : Orch.V} {lv : Value} (h : VsAt w S v.l lv) (h6 : v.l.length = 6) :
    ∃ g cap, lv = .slice (some ⟨g, 0, none⟩) 6 cap ∧ 6 ≤ cap ∧ S g ∧ w.cell? ⟨g, 1, none⟩ = some (.string (nodeOf v).path) ∧ w.cell? ⟨g, 4, none⟩ = some (.string (nodeOf v).data) ∧ w.cell? ⟨g, 7, none⟩ = some (.string (nodeOf v).note) ∧
      w.cell? ⟨g, 9, none⟩ = some (.int .i64 (nodeOf v).made) ∧ w.cell? ⟨g, 12, none⟩ = some (.int .i64 (nodeOf v).changed) ∧ w.cell? ⟨g, 15, none⟩ = some (.int .i64 (nodeOf v).version) := by
  have at' : ∀ i (hi : i < v.l.length), ∃ g cap x, lv = .slice (some ⟨g, 0, none⟩) 6 cap ∧ 6 ≤ cap ∧ S g ∧ ∀ j u, (vcell (v.l.getD i (.mk 0 ByteArray.empty []), x))[j]? = some u → w.cell? ⟨g, i * 3 + j, none⟩ = some u := fun i hi => by
    obtain ⟨g, cap, x, e, hc, hS, _, hcell⟩ := h.at i hi
    rw [h6] at e hc
    refine ⟨g, cap, x, e, hc, hS, fun j u hu => hcell j u ?_⟩
    rw [List.getD_eq_getElem?_getD, List.getElem?_eq_getElem hi] at hu
    exact hu
  obtain ⟨g, cap, x0, rfl, hc, hS, k0⟩ := at' 0 (by omega)
  obtain ⟨g1, cap1, x1, e1, _, _, k1⟩ := at' 1 (by omega)
  obtain ⟨g2, cap2, x2, e2, _, _, k2⟩ := at' 2 (by omega)
  obtain ⟨g3, cap3, x3, e3, _, _, k3⟩ := at' 3 (by omega)
  obtain ⟨g4, cap4, x4, e4, _, _, k4⟩ := at' 4 (by omega)
  obtain ⟨g5, cap5, x5, e5, _, _, k5⟩ := at' 5 (by omega)
  simp only [Value.slice.injEq, Option.some.injEq, Addr.mk.injEq] at e1 e2 e3 e4 e5
  obtain ⟨⟨rfl, _⟩, _⟩ := e1
  obtain ⟨⟨rfl, _⟩, _⟩ := e2
  obtain ⟨⟨rfl, _⟩, _⟩ := e3
  obtain ⟨⟨rfl, _⟩, _⟩ := e4
  obtain ⟨⟨rfl, _⟩, _⟩ := e5
  exact ⟨g, cap, rfl, hc, hS, k0 1 _ rfl, k1 1 _ rfl, k2 1 _ rfl, k3 0 _ rfl, k4 0 _ rfl, k5 0 _ rfl⟩

theorem own_mono {w : World} {base base' : Nat} {e : TypeId} {size : Nat} {v : Value} {n : Nat} {xs : List Value} (h : w.ownsRow base e size v n xs) (hb : base' ≤ base) : w.ownsRow base' e size v n xs :=
  ⟨h.1, h.2.imp id fun ⟨g, cap, cur, h1, h2, h3⟩ => ⟨g, cap, cur, h1, Nat.le_trans hb h2, h3⟩⟩

/-- What readNodes leaves. -/
def rnRes (w w' : World) (e : Ending) : Option (List Orch.Node × List UInt8) → Prop
  | none => e = .returned (.tuple #[.slice none 0 0, .bool false])
  | some (ns, rest) => ∃ v, e = .returned (.tuple #[v, .bool (decide (rest.length = 0))]) ∧ w'.ownsRow w.heap.size 69 6 v ns.length (ns.flatMap ncell)

theorem Tryd.info69 : (Tryd.prog.info? 69).map (fun i => (i.zero, i.size, i.bytes)) = some (some (ndv ⟨#[]⟩ ⟨#[]⟩ ⟨#[]⟩ 0 0 0), 6, 72) := by kernel_rfl

set_option maxRecDepth 8000 in
set_option maxHeartbeats 4000000 in
theorem readNodes_2 {Tabs : World → Prop} (U : Utf validB Tabs) (w : World) (hT : Tabs w) (hL : Table w) (hSc : Schemas w) (bv : Value) (l : List UInt8) (hl : l.length ≤ 1000000) (hbv : BsAt w bv l) (c : Nat) (hc : c ≤ 32) :
    Calls Tryd.prog 36 #[bv, .int .i64 2, .int .i64 c] w fun e w' => rnRes w w' e (rdN c l) ∧ Below w.heap.size w w' := by
  have HTb : Hid (∀ W, Below w.heap.size w W → Tabs W) := fun W h => U.kept (U.size hT) h hT
  have HP : Hid (∀ W, Below w.heap.size w W → Calls Tryd.prog 19 #[.string ⟨#[40, 116, 98, 116, 56, 56, 52, 41]⟩] W fun e w' => parseRes W w' e (some ty2) ∧ Below W.heap.size W w') := fun W h => by
    have := parse_any W ⟨#[40, 116, 98, 116, 56, 56, 52, 41]⟩ (hL.below h hL.pos)
    exact this
  obtain ⟨st, sf, hs0⟩ := hSc
  have s2 := cellOf (j := 2) hs0 rfl
  have HBV := hide hbv
  obtain ⟨b, off, cap, rfl, hcap, hlt, hbytes⟩ := hbv
  clear hbytes hs0 hT hL
  go_enter Tryd.func36, Tryd.ntmps36
  go_wp2_with fail
  refine (HP.out w (Below.refl _ _)).mono ?_
  rintro e w1 ⟨⟨psv, he, hts⟩, hb1⟩
  obtain ⟨pa, pc, rfl⟩ := hts.shape
  have he' : e = .returned (.tuple #[tyv 40 3 0 0 0 false 41 (.slice pa 6 pc), .bool true]) := he
  subst he'
  have hn1 := heap_alloc_new w1 (.cells #[.int .u8 40, .int .i64 3, .int .i64 0, .int .i64 0, .int .i64 0, .bool false, .int .u8 41, .slice pa 6 pc] 62)
  have hs1 : (w1.alloc (.cells #[.int .u8 40, .int .i64 3, .int .i64 0, .int .i64 0, .int .i64 0, .bool false, .int .u8 41, .slice pa 6 pc] 62)).heap.size = w1.heap.size + 1 := by simp
  have hb2 : Below w.heap.size w (w1.alloc (.cells #[.int .u8 40, .int .i64 3, .int .i64 0, .int .i64 0, .int .i64 0, .bool false, .int .u8 41, .slice pa 6 pc] 62)) := hb1.alloc hb1.size _
  have hts2 : TsAt (w1.alloc (.cells #[.int .u8 40, .int .i64 3, .int .i64 0, .int .i64 0, .int .i64 0, .bool false, .int .u8 41, .slice pa 6 pc] 62)) (fun b => w.heap.size ≤ b ∧ b < w1.heap.size) ty2.ps (.slice pa 6 pc) := hts.congr (fun _ h => h) (fun b hb => Below.heap_alloc _ _ _ hb.2)
  have HB2 := hide hb2
  have HTS2 := hide hts2
  have HN2 := hide hn1
  have HS2 := hide hs1
  have HSW := hide hb1.size
  clear hts he hb1 hb2 hts2 hn1 hs1 s2 HP
  go_wp2_with fail
  generalize w1.alloc (.cells #[.int .u8 40, .int .i64 3, .int .i64 0, .int .i64 0, .int .i64 0, .bool false, .int .u8 41, .slice pa 6 pc] 62) = w2 at *
  generalize w1.heap.size = G at *
  go_loopw [0, 10, 24] (fun o nv i wr => ∃ (k : Nat) (ns : List Orch.Node) (rest : List UInt8), k ≤ c ∧ i = .int .i64 k ∧ ns.length = k ∧ rest.length ≤ 1000000 ∧ Hid (wr.ownsRow (G + 1) 69 6 nv ns.length (ns.flatMap ncell)) ∧ Hid (Below w2.heap.size w2 wr) ∧ Hid (BsAt wr o rest) ∧ Hid (BsAt w o rest) ∧
      Hid (rdN c l = (rdN (c - k) rest).map fun r => (ns ++ r.1, r.2)))
    (fun _ _ i _ => c - (intOf i).toNat)
  case atStart => exact ⟨0, [], l, Nat.zero_le _, rfl, rfl, hl, ⟨rfl, .inl ⟨rfl, rfl⟩⟩, Below.refl _ _, HBV.out.below HB2.out (Nat.le_refl _), HBV, by show _ = _; simp⟩
  case round =>
    obtain ⟨k, ns, rest, hk, rfl, hnk, hrl, HO, HBR, HBS, HBS0, HRD⟩ := hrel
    have hszr := HBR.out.size
    have hs2 := HS2.out
    have hsw := HSW.out
    by_cases hlk : k < c
    · have hkz : (k : Int) < (c : Int) := by omega
      have hT8 : wr.heap[G]? = some (.cells #[.int .u8 40, .int .i64 3, .int .i64 0, .int .i64 0, .int .i64 0, .bool false, .int .u8 41, .slice pa 6 pc] 62) := (HBR.out.block _ (by omega)).trans HN2.out
      have t0 := cellOf (j := 0) hT8 rfl
      have t1 := cellOf (j := 1) hT8 rfl
      have t2 := cellOf (j := 2) hT8 rfl
      have t3 := cellOf (j := 3) hT8 rfl
      have t4 := cellOf (j := 4) hT8 rfl
      have t5 := cellOf (j := 5) hT8 rfl
      have t6 := cellOf (j := 6) hT8 rfl
      have t7 := cellOf (j := 7) hT8 rfl
      have hbw : Below w.heap.size w wr := HB2.out.trans (HBR.out.mono (by omega))
      have HBW := hide hbw
      have hcall := vt_any U wr (HTb.out wr hbw) ty2 ok_ty2 (fun b => b < wr.heap.size) (.slice pa 6 pc) (HTS2.out.congr (fun b h => by omega) (fun b h => HBR.out.block b (by omega))) (fun _ h => h) u0 rest (by omega) HBS.out
      have HCALL : Hid (Calls Tryd.prog 33 #[tyv 40 3 0 0 0 false 41 (.slice pa 6 pc), u0] wr fun e w' => vtRes wr w' u0 rest e (vtake validB ty2 rest) ∧ Below wr.heap.size wr w') := hcall
      have hck : c - k = (c - k - 1) + 1 := by omega
      rw [hck] at HRD
      obtain ⟨b1, off1, cap1, hu0, _⟩ := HBS.out
      clear hcall hbw hT8
      cases hq : vtake validB ty2 rest with
      | none =>
        rw [hq] at HCALL
        have HNONE : Hid (rdN c l = none) := by show _ = _; rw [HRD.out]; simp [rdN, hq]
        subst hu0
        go_wp2_with fail
        refine HCALL.out.mono ?_
        rintro e w3 ⟨he, hb3⟩
        have he' : e = .returned (.tuple #[vv 0 ⟨#[]⟩ (.slice none 0 0), .slice none 0 0, .bool false]) := he
        subst he'
        have HB3 : Hid (Below w.heap.size w w3) := HBW.out.trans (hb3.mono HBW.out.size)
        clear he hb3 t0 t1 t2 t3 t4 t5 t6 t7
        go_wp2
        exact bodyPost_ret (v := .tuple #[.slice none 0 0, .bool false]) (by simp [results, Tryd.results36, go_sem]) rfl ⟨by rw [HNONE.out]; rfl, HB3.out.alloc HB3.out.size _⟩
      | some vr =>
        obtain ⟨v, rest'⟩ := vr
        have h6 := vtake_six hq
        rw [hq] at HCALL
        have hnext : rdN c l = (rdN (c - (k + 1)) rest').map fun r => ((ns ++ [nodeOf v]) ++ r.1, r.2) := by
          rw [HRD.out, show c - k - 1 = c - (k + 1) by omega]
          simp only [rdN, hq, Option.map_map]
          congr 1
          funext r
          simp
        have HNEXT := hide hnext
        clear hnext
        subst hu0
        go_wp2_with fail
        refine HCALL.out.mono ?_
        rintro e w3 ⟨⟨lv, rv, rfl, hvl, htl, _⟩, hb3⟩
        obtain ⟨g, vcap, rfl, hvc, hgS, k0, k1, k2, k3, k4, k5⟩ := six hvl h6
        have hbA := below1 w3 (.cells #[.int .i64 v.n, .string v.s, .slice (some ⟨g, 0, none⟩) 6 vcap] 31)
        have hND := node_2 (w3.alloc (.cells #[.int .i64 v.n, .string v.s, .slice (some ⟨g, 0, none⟩) 6 vcap] 31)) v.n v.s g vcap hvc (by simp; omega) (nodeOf v).path (nodeOf v).data (nodeOf v).note (nodeOf v).made (nodeOf v).changed (nodeOf v).version
          ((hbA.cell (p := ⟨g, 1, none⟩) hgS.2).trans k0) ((hbA.cell (p := ⟨g, 4, none⟩) hgS.2).trans k1) ((hbA.cell (p := ⟨g, 7, none⟩) hgS.2).trans k2) ((hbA.cell (p := ⟨g, 9, none⟩) hgS.2).trans k3) ((hbA.cell (p := ⟨g, 12, none⟩) hgS.2).trans k4) ((hbA.cell (p := ⟨g, 15, none⟩) hgS.2).trans k5)
        have HND := hide hND
        have hb4 : Below wr.heap.size wr (w3.alloc (.cells #[.int .i64 v.n, .string v.s, .slice (some ⟨g, 0, none⟩) 6 vcap] 31)) := hb3.trans (hbA.mono hb3.size)
        have HB4 := hide hb4
        have HTL := hide htl
        obtain ⟨rb, ro, rc, hrv, _⟩ := htl wr HBS.out
        have hrl' : rest'.length ≤ 1000000 := Nat.le_trans (vtake_len hq) hrl
        clear hvl hb3 hb4 hbA hND htl k0 k1 k2 k3 k4 k5 t0 t1 t2 t3 t4 t5 t6 t7 hgS
        subst hrv
        go_wp2_with fail
        refine HND.out.mono ?_
        rintro e w5 ⟨rfl, hb5⟩
        have hb45 : Below wr.heap.size wr w5 := HB4.out.trans (hb5.mono HB4.out.size)
        have HO5 := hide (ownsRow_below HO.out hb45)
        have HB5 := hide hb45
        have hs5 := hb45.size
        obtain ⟨i0, hi0, hz0, hz1, hz2⟩ := info_parts Tryd.info69
        generalize hxx : nodeOf v = x at *
        obtain ⟨xp, xd, xt, xm, xch, xv⟩ := x
        simp only
        clear hb45 hb5 HND HB4
        obtain ⟨qa, qc, hqv⟩ : ∃ a c, u10 = .slice a ns.length c := by
          rcases HO.out.2 with ⟨e, h⟩ | ⟨g, cap, cur, e, _⟩
          · exact ⟨none, 0, by rw [e, h]⟩
          · exact ⟨_, _, e⟩
        subst hqv
        go_wp2_with (at_builtin; refine wpList_append_own _ rfl _ _ 44 rfl (G + 1) 69 i0 (ndv ⟨#[]⟩ ⟨#[]⟩ ⟨#[]⟩ 0 0 0) 6 72 Tryd.underlying44 hi0 hz0 hz1 hz2 rfl (by decide) _ _ _ rfl (HO5.out.alloc _) ⟨w5.heap.size, 0, none⟩ 1 1 (ncell ⟨xp, xd, xt, xm, xch, xv⟩) rfl rfl ?hn ?h1 ?c3 ?c4 ?c5 ?_)
        case hn => exact World.news_of_block (heap_alloc_new w5 _)
        case h1 => intro u hu; simp only [ncell, List.mem_cons, List.mem_nil_iff, or_false] at hu; rcases hu with rfl | rfl | rfl | rfl | rfl | rfl <;> rfl
        case c3 => unfold maxLen; omega
        case c4 => omega
        case c5 => simp; omega
        intro v' w6 hown' hgrow _
        have hbg : Below (G + 1) w5 w6 := ((Below.refl (G + 1) w5).alloc (by omega) _).grown hgrow (by simp; omega) (fun j hj => (HO5.out.lt j (by rw [hnk]; exact hj)).1)
        have HB6 : Hid (Below w2.heap.size w2 w6) := by
          show Below _ _ _
          rw [HS2.out]
          exact ((HS2.out ▸ HBR.out : Below (G + 1) w2 wr).trans (HB5.out.mono (by omega))).trans hbg
        have HO6 : Hid (w6.ownsRow (G + 1) 69 6 v' (ns ++ [(⟨xp, xd, xt, xm, xch, xv⟩ : Orch.Node)]).length ((ns ++ [(⟨xp, xd, xt, xm, xch, xv⟩ : Orch.Node)]).flatMap ncell)) := by
          show World.ownsRow _ _ _ _ _ _ _
          rw [List.length_append, List.flatMap_append, hnk]
          simpa using hown'
        have hbw6 : Below w.heap.size w w6 := HB2.out.trans (HB6.out.mono (by have := HB2.out.size; omega))
        have HBS6 : Hid (BsAt w6 (.slice (some ⟨rb, ro, none⟩) rest'.length rc) rest') := (HTL.out w HBS0.out).below hbw6 (Nat.le_refl _)
        have HBS60 := hide (HTL.out w HBS0.out)
        have hl1 : (ns ++ [(⟨xp, xd, xt, xm, xch, xv⟩ : Orch.Node)]).length = k + 1 := by simp [hnk]
        have HLL := hide hl1
        clear hown' hgrow hbg hbw6 hl1
        go_wp2_with fail
        go_roundw
        case rel => exact ⟨k + 1, ns ++ [⟨xp, xd, xt, xm, xch, xv⟩], rest', by omega, by go_num, HLL.out, hrl', HO6, HB6, HBS6, HBS60, by show _ = _; rw [HNEXT.out]⟩
        case measure => first | (simp [intOf]; done) | (simp [intOf]; omega)
    · have hkz : ¬ (k : Int) < (c : Int) := by omega
      obtain rfl : k = c := by omega
      have HEND : Hid (rdN k l = some (ns, rest)) := by
        show _ = _
        rw [HRD.out, Nat.sub_self]
        simp [rdN]
      obtain ⟨b1, off1, cap1, hu0, _⟩ := HBS.out
      subst hu0
      have HBW : Hid (Below w.heap.size w wr) := HB2.out.trans (HBR.out.mono (by omega))
      have HDEC : Hid (((rest.length : Int) == 0) = decide (rest.length = 0)) := by
        show _ = _
        rw [Bool.eq_iff_iff, beq_iff_eq, decide_eq_true_iff]
        omega
      go_wp2
      exact bodyPost_ret (v := .tuple #[u10, .bool (decide (rest.length = 0))]) (by simp [results, Tryd.results36, go_sem, HDEC.out]) rfl ⟨by rw [HEND.out]; exact ⟨u10, rfl, own_mono HO.out (by omega)⟩, HBW.out⟩
end Go.Proofs.YtlghcldiboecoaaDoor
