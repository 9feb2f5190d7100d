/- The trees that grown makes: what every step keeps. -/
import Derived.Test.YtbnoghkijgmcgaaDoorFInv
set_option linter.unusedVariables false
namespace Go.Proofs.YtbnoghkijgmcgaaDoor
open Go.RowKit

/-- A node that grown adds to these. -/
def NewN (ns : List Orch.Node) (x : Orch.Node) : Prop :=
  (∃ c : UInt8, 97 ≤ c.toNat ∧ c.toNat ≤ 116 ∧ (x.path = ⟨#[47, c]⟩ ∨ ∃ j, ∃ h : j < ns.length, 0 < j ∧ ns[j].path.size < 20 ∧ x.path = ns[j].path ++ ⟨#[47, c]⟩)) ∧ x.data.size ≤ 40 ∧ x.note.size ≤ 10 ∧ validB x.note = true ∧
  0 ≤ x.made ∧ x.made ≤ 999 ∧ x.made ≤ x.changed ∧ x.changed ≤ x.made + 999 ∧ 0 ≤ x.version ∧ x.version ≤ 2147483647

def root : Orch.Node := ⟨⟨#[47]⟩, ⟨#[]⟩, ⟨#[]⟩, 0, 0, 0⟩

/-- A node that grown has added. -/
def Good (n : Int) (x : Orch.Node) : Prop := Pairs x.path ∧ x.path.size ≤ 24 ∧ x.data.size ≤ 40 ∧ x.note.size ≤ 10 ∧ validB x.note = true ∧ 0 ≤ x.made ∧ x.made ≤ x.changed ∧ x.changed ≤ n ∧ 0 ≤ x.version ∧ x.version ≤ 2147483647

/-- The tree so far. -/
def Grow (n : Int) (ns : List Orch.Node) : Prop := ∃ r, ns = root :: r ∧ r.length ≤ 31 ∧ 0 ≤ n ∧ n ≤ 2000 ∧ (∀ x ∈ r, Good n x) ∧ Ord r ∧ ∀ x ∈ r, ∃ y ∈ root :: r, y.path = parentB x.path

theorem grow_root : Grow 0 [root] := ⟨[], rfl, by simp, by omega, by omega, by simp, by simp [Ord], by simp⟩

theorem pairs_lt {s : ByteArray} (h : Pairs s) : ltP root.path s = true ∧ ltP s root.path = false ∧ (s.toList == root.path.toList) = false ∧ slash1 s = true ∧ 2 ≤ s.size := by
  obtain ⟨l, hne, hl, e⟩ := h
  cases l with
  | nil => exact absurd rfl hne
  | cons c l =>
    have e' : s.data.toList = 47 :: c :: pr l := e
    have hr : root.path.data.toList = [47] := rfl
    have hsz : 2 ≤ s.size := by
      have := congrArg List.length e'
      rw [Array.length_toList] at this
      show 2 ≤ s.data.size
      rw [this]
      simp
    refine ⟨?_, ?_, ?_, ?_, hsz⟩
    · unfold ltP
      rw [Lib.toList_data, Lib.toList_data, e', hr]
      simp [Op.bytesLess]
    · unfold ltP
      rw [Lib.toList_data, Lib.toList_data, e', hr]
      simp [Op.bytesLess]
    · rw [Lib.toList_data, Lib.toList_data, e', hr]
      simp
    · unfold slash1
      rw [Bool.and_eq_true, decide_eq_true_iff, beq_iff_eq, Lib.toList_data, ByteArray.data_extract, Array.toList_extract, e']
      exact ⟨by omega, by simp [List.extract]⟩

theorem grow_step (n : Int) (ns : List Orch.Node) (x : Orch.Node) (h : Grow n ns) (hl : ns.length < 32) (hx : NewN ns x) : Grow (if n < x.changed then x.changed else n) (insN x ns) := by
  obtain ⟨r, rfl, hr31, h0, h1, hg, ho, hp⟩ := h
  obtain ⟨⟨c, hc0, hc1, hpath⟩, hd, ht, hv, hm0, hm1, hmc, hch, hv0, hv1⟩ := hx
  have hX : Pairs x.path ∧ x.path.size ≤ 24 ∧ ∃ y ∈ root :: r, y.path = parentB x.path := by
    rcases hpath with e | ⟨j, hj, hj0, hs, e⟩
    · exact ⟨pairs_one hc0 hc1 e, by rw [e]; show 2 ≤ 24; omega, root, by simp, (parent_one hc0 e).symm⟩
    · cases j with
      | zero => omega
      | succ j =>
        have hj' : j < r.length := by simpa using hj
        have em : (root :: r)[j + 1] = r[j] := rfl
        rw [em] at hs e
        have hm := List.getElem_mem hj'
        have hq := (hg _ hm).1
        refine ⟨pairs_more hc0 hc1 hq e, ?_, r[j], by simp [hm], (parent_more hc0 hq e).symm⟩
        rw [e, ByteArray.size_append]
        show _ + 2 ≤ 24
        omega
  obtain ⟨hX1, hX2, hX3⟩ := hX
  have hlt := pairs_lt hX1
  have hins : insN x (root :: r) = root :: insN x r := by
    rw [insN, if_neg (by rw [hlt.2.1]; simp), if_neg (by rw [hlt.2.2.1]; simp)]
  have hn' : n ≤ (if n < x.changed then x.changed else n) ∧ x.changed ≤ (if n < x.changed then x.changed else n) ∧ (if n < x.changed then x.changed else n) ≤ 2000 := by
    split <;> omega
  refine ⟨insN x r, hins, ?_, by omega, hn'.2.2, fun y hy => ?_, ins_ord x r ho, fun y hy => ?_⟩
  · have := ins_len x r
    simp at hl
    omega
  · rcases mem_ins x r y hy with rfl | hy
    · exact ⟨hX1, hX2, hd, ht, hv, hm0, hmc, hn'.2.1, hv0, hv1⟩
    · obtain ⟨a1, a2, a3, a4, a5, a6, a7, a8, a9, a10⟩ := hg y hy
      exact ⟨a1, a2, a3, a4, a5, a6, a7, by omega, a9, a10⟩
  · have hkeep : ∀ z ∈ root :: r, z ∈ root :: insN x r := fun z hz => by
      rcases List.mem_cons.1 hz with rfl | hz
      · simp
      · exact List.mem_cons_of_mem _ (ins_mem x r z hz)
    rcases mem_ins x r y hy with rfl | hy
    · obtain ⟨z, hz, e⟩ := hX3
      exact ⟨z, hkeep z hz, e⟩
    · obtain ⟨z, hz, e⟩ := hp y hy
      exact ⟨z, hkeep z hz, e⟩

theorem grow_is {n : Int} {ns : List Orch.Node} (h : Grow n ns) : 1 ≤ ns.length ∧ ns.length ≤ 32 ∧ 0 ≤ n ∧ n ≤ 1000000 ∧ ∀ x, x ∈ ns → x.path.size ≤ 24 := by
  obtain ⟨r, rfl, hr31, h0, h1, hg, ho, hp⟩ := h
  refine ⟨by simp, by simpa using hr31, h0, by omega, fun x hx => ?_⟩
  rcases List.mem_cons.1 hx with rfl | hx
  · decide
  · exact (hg x hx).2.1

theorem grow_nd {n : Int} {ns : List Orch.Node} (h : Grow n ns) (x : Orch.Node) (hx : x ∈ ns) : isPa x.path = true ∧ x.path.size ≤ 24 ∧ validB x.path = true ∧ x.data.size ≤ 40 ∧ x.note.size ≤ 10 ∧ validB x.note = true ∧ 0 ≤ x.made ∧ x.made ≤ x.changed ∧ x.changed ≤ n ∧ 0 ≤ x.version ∧ x.version ≤ 2147483647 := by
  obtain ⟨r, rfl, hr31, h0, h1, hg, ho, hp⟩ := h
  rcases List.mem_cons.1 hx with rfl | hx
  · refine ⟨?_, by decide, ascii_valid [47] (by simp), by decide, by decide, ascii_valid [] (by simp), by decide, by decide, h0, by decide, by decide⟩
    unfold isPa
    rw [Bool.and_eq_true, Bool.or_eq_true, Lib.toList_data]
    exact ⟨by decide, .inl rfl⟩
  · obtain ⟨a1, a2, a3, a4, a5, a6, a7, a8, a9, a10⟩ := hg x hx
    refine ⟨pairs_pa a1 a2, a2, ?_, a3, a4, a5, a6, a7, a8, a9, a10⟩
    obtain ⟨l, hne, hl, e⟩ := a1
    have := ascii_valid (pr l) (fun c hc => by
      unfold pr at hc
      rw [List.mem_flatMap] at hc
      obtain ⟨d, hd, hc⟩ := hc
      simp only [List.mem_cons, List.mem_nil_iff, or_false] at hc
      rcases hc with rfl | rfl
      · decide
      · have := (hl _ hd).2
        omega)
    rw [← e] at this
    exact this

theorem grow_tree {n : Int} {ns : List Orch.Node} (h : Grow n ns) : TreeP n ns := by
  have hn := grow_nd h
  have hi := grow_is h
  obtain ⟨r, rfl, hr31, h0, h1, hg, ho, hp⟩ := h
  refine ⟨hi.2.1, ⟨by simp, rfl⟩, fun x hx => ?_, ?_, fun k hk => ?_⟩
  · obtain ⟨a1, a2, a3, a4, a5, a6, a7, a8, a9, a10, a11⟩ := hn x hx
    refine ⟨?_, a9⟩
    unfold isNd isNt
    simp only [Bool.and_eq_true, decide_eq_true_iff]
    exact ⟨a1, a4, ⟨a5, a6⟩, a7, a8, a10, a11⟩
  · have hall : Ord (root :: r) := List.pairwise_cons.2 ⟨fun y hy => (pairs_lt (hg y hy).1).1, ho⟩
    intro k hk
    exact (List.pairwise_iff_getElem.1 hall) k (k + 1) (by omega) hk (by omega)
  · have hk' : k < r.length := by simpa using hk
    obtain ⟨y, hy, e⟩ := hp r[k] (List.getElem_mem hk')
    obtain ⟨j, hj, ej⟩ := List.getElem_of_mem hy
    exact ⟨j, hj, by rw [ej, e]; rfl⟩

theorem nb_some {p d t : ByteArray} {m c v : Int} (hp : p.size ≤ 200) (hpv : validB p = true) (hd : d.size ≤ 200) (ht : t.size ≤ 200) (htv : validB t = true) (hm0 : 0 ≤ m) (hm1 : m ≤ 9223372036854775807) (hc0 : 0 ≤ c) (hc1 : c ≤ 9223372036854775807) (hv0 : 0 ≤ v) (hv1 : v ≤ 2147483647) :
    ∃ b, Orch.put validB 9 [] ty2 (Orch.fields 2 ⟨p, d, t, m, c, v⟩) = some b ∧ 0 < b.length := by
  have r1 : ∀ l : Orch.Lt, Orch.find l.sign = some l → l.fin = 0 → Orch.Reads 8 [l.sign] (.mk l []) := fun l h hs rest => by
    rw [List.singleton_append, Orch.ptype, h]
    simp only
    rw [if_pos hs]
  have T0 := Orch.Tup.nil (valid := validB) 8
  have T1 := T0.snoc (r1 ⟨116, 1, 0, 0, 0, true, 0⟩ rfl rfl) (Orch.lays_bytes (valid := validB) (k := 7) (l := ⟨116, 1, 0, 0, 0, true, 0⟩) (s := p) rfl hp (fun _ => hpv))
  have T2 := T1.snoc (r1 ⟨98, 1, 0, 0, 0, false, 0⟩ rfl rfl) (Orch.lays_bytes (valid := validB) (k := 7) (l := ⟨98, 1, 0, 0, 0, false, 0⟩) (s := d) rfl hd (fun h => by cases h))
  have T3 := T2.snoc (r1 ⟨116, 1, 0, 0, 0, true, 0⟩ rfl rfl) (Orch.lays_bytes (valid := validB) (k := 7) (l := ⟨116, 1, 0, 0, 0, true, 0⟩) (s := t) rfl ht (fun _ => htv))
  have T4 := T3.snoc (r1 ⟨56, 0, 8, -9223372036854775808, 9223372036854775807, false, 0⟩ rfl rfl) (Orch.lays_num (valid := validB) (k := 7) (l := ⟨56, 0, 8, -9223372036854775808, 9223372036854775807, false, 0⟩) (n := m) rfl (by simp only; omega) (by simp only; omega))
  have T5 := T4.snoc (r1 ⟨56, 0, 8, -9223372036854775808, 9223372036854775807, false, 0⟩ rfl rfl) (Orch.lays_num (valid := validB) (k := 7) (l := ⟨56, 0, 8, -9223372036854775808, 9223372036854775807, false, 0⟩) (n := c) rfl (by simp only; omega) (by simp only; omega))
  have T6 := T5.snoc (r1 ⟨52, 0, 4, -2147483648, 2147483647, false, 0⟩ rfl rfl) (Orch.lays_num (valid := validB) (k := 7) (l := ⟨52, 0, 4, -2147483648, 2147483647, false, 0⟩) (n := v) rfl (by simp only; omega) (by simp only; omega))
  have L := Orch.lays_tup T6
  have := L [] (by
    simp only [List.length_append, List.length_nil, Orch.be_length, Array.length_toList]
    have e1 : p.data.size = p.size := rfl
    have e2 : d.data.size = d.size := rfl
    have e3 : t.data.size = t.size := rfl
    omega)
  exact ⟨_, this, by simp [Orch.be_length]; omega⟩

theorem grow_nb {n : Int} {ns : List Orch.Node} (h : Grow n ns) (x : Orch.Node) (hx : x ∈ ns) : Orch.put validB 9 [] ty2 (Orch.fields 2 x) = some (nb x) ∧ 0 < (nb x).length := by
  obtain ⟨a1, a2, a3, a4, a5, a6, a7, a8, a9, a10, a11⟩ := grow_nd h x hx
  have hi := grow_is h
  obtain ⟨p, d, t, m, c, v⟩ := x
  simp only at a1 a2 a3 a4 a5 a6 a7 a8 a9 a10 a11
  obtain ⟨b, hb, hb0⟩ := nb_some (p := p) (d := d) (t := t) (m := m) (c := c) (v := v) (by omega) a3 (by omega) (by omega) a6 a7 (by omega) (by omega) (by omega) a10 a11
  unfold nb
  rw [hb]
  exact ⟨rfl, hb0⟩
end Go.Proofs.YtbnoghkijgmcgaaDoor
