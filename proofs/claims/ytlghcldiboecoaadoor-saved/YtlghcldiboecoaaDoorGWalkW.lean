/- Saved answers true. -/
import Derived.Test.YtlghcldiboecoaaDoorGWalk
set_option linter.unusedVariables false
namespace Go.Proofs.YtlghcldiboecoaaDoor
open Go.RowKit

theorem nb_some1 {p d : ByteArray} {t : ByteArray} {m c v : Int} (hp : p.size ≤ 200) (hpv : validB p = true) (hd : d.size ≤ 200) (hm0 : 0 ≤ m) (hm1 : m ≤ 9223372036854775807) (hc0 : 0 ≤ c) (hc1 : c ≤ 9223372036854775807) (hv0 : 0 ≤ v) (hv1 : v ≤ 2147483647) :
    ∃ b, Orch.put validB 9 [] ty1 (Orch.fields 1 ⟨p, d, t, m, c, v⟩) = some b ∧ 0 < b.length := by
  have r1 : ∀ l : Orch.Lt, Orch.find l.sign = some l → l.fin = 0 → Orch.Reads 8 [l.sign] (.mk l []) := fun l h hs rest => by
    rw [List.singleton_append, Orch.ptype, h]
    simp only
    rw [if_pos hs]
  have T0 := Orch.Tup.nil (valid := validB) 8
  have T1 := T0.snoc (r1 ⟨116, 1, 0, 0, 0, true, 0⟩ rfl rfl) (Orch.lays_bytes (valid := validB) (k := 7) (l := ⟨116, 1, 0, 0, 0, true, 0⟩) (s := p) rfl hp (fun _ => hpv))
  have T2 := T1.snoc (r1 ⟨98, 1, 0, 0, 0, false, 0⟩ rfl rfl) (Orch.lays_bytes (valid := validB) (k := 7) (l := ⟨98, 1, 0, 0, 0, false, 0⟩) (s := d) rfl hd (fun h => by cases h))
  have T4 := T2.snoc (r1 ⟨56, 0, 8, -9223372036854775808, 9223372036854775807, false, 0⟩ rfl rfl) (Orch.lays_num (valid := validB) (k := 7) (l := ⟨56, 0, 8, -9223372036854775808, 9223372036854775807, false, 0⟩) (n := m) rfl (by simp only; omega) (by simp only; omega))
  have T5 := T4.snoc (r1 ⟨56, 0, 8, -9223372036854775808, 9223372036854775807, false, 0⟩ rfl rfl) (Orch.lays_num (valid := validB) (k := 7) (l := ⟨56, 0, 8, -9223372036854775808, 9223372036854775807, false, 0⟩) (n := c) rfl (by simp only; omega) (by simp only; omega))
  have T6 := T5.snoc (r1 ⟨52, 0, 4, -2147483648, 2147483647, false, 0⟩ rfl rfl) (Orch.lays_num (valid := validB) (k := 7) (l := ⟨52, 0, 4, -2147483648, 2147483647, false, 0⟩) (n := v) rfl (by simp only; omega) (by simp only; omega))
  have L := Orch.lays_tup T6
  have := L [] (by
    simp only [List.length_append, List.length_nil, Orch.be_length, Array.length_toList]
    have e1 : p.data.size = p.size := rfl
    have e2 : d.data.size = d.size := rfl
    omega)
  exact ⟨_, this, by simp [Orch.be_length]; omega⟩

theorem grow_nb1 {n : Int} {ns : List Orch.Node} (h : Grow n ns) (x : Orch.Node) (hx : x ∈ ns) : Orch.put validB 9 [] ty1 (Orch.fields 1 x) = some (nb1 x) ∧ 0 < (nb1 x).length := by
  obtain ⟨a1, a2, a3, a4, a5, a6, a7, a8, a9, a10, a11⟩ := grow_nd h x hx
  have hi := grow_is h
  obtain ⟨p, d, t, m, c, v⟩ := x
  simp only at a1 a2 a3 a4 a5 a6 a7 a8 a9 a10 a11
  obtain ⟨b, hb, hb0⟩ := nb_some1 (p := p) (d := d) (t := t) (m := m) (c := c) (v := v) (by omega) a3 (by omega) a7 (by omega) (by omega) (by omega) a10 a11
  unfold nb1
  rw [hb]
  exact ⟨rfl, hb0⟩

theorem grow_le {n : Int} {ns : List Orch.Node} (h : Grow n ns) : n ≤ 2000 := by
  obtain ⟨r, _, _, _, h1, _⟩ := h
  exact h1

theorem grow_fit {n : Int} {ns : List Orch.Node} (h : Grow n ns) (k : Nat) (hk : k < 1000) : Fit (n + k) ns := by
  have hi := grow_is h
  exact ⟨⟨by omega, by omega⟩, tree_mono (grow_tree h) (by omega), fun x hx => by obtain ⟨a1, a2, a3, a4, _⟩ := grow_nd h x hx; exact ⟨by omega, by omega⟩, grow_nb h⟩

theorem Raw.below {w W : World} {v : Value} {raw : List Orch.Node} (h : Raw w v raw) (hW : Below w.heap.size w W) : Raw W v raw := by
  rcases h with h | h
  · exact .inl h
  · obtain ⟨b, off, cap, e, hc, hlt, hn⟩ := h.below hW
    exact .inr ⟨b, off, cap, e, hc, Nat.lt_of_lt_of_le hlt hW.size, hn⟩

theorem saved_walk {Tabs : World → Prop} (U : Utf validB Tabs) (w : World) (hT : Tabs w) (hL : Table w) (hSc : Schemas w) (mx : Int) (hm : w.cell? ⟨4, 0, none⟩ = some (.int .i64 mx)) (h4 : 4 < w.heap.size)
    (rawv : Value) (raw : List Orch.Node) (hraw : Raw w rawv raw) (hlen : raw.length ≤ 9223372036854775807) (hrng : ∀ x, x ∈ raw → x.data.size ≤ 9223372036854775807 ∧ x.note.size ≤ 9223372036854775807 ∧ (-9223372036854775808 ≤ x.made ∧ x.made ≤ 9223372036854775807) ∧ (-9223372036854775808 ≤ x.changed ∧ x.changed ≤ 9223372036854775807) ∧ (-9223372036854775808 ≤ x.version ∧ x.version ≤ 9223372036854775807))
    (more : Int) (hm0 : -9223372036854775808 ≤ more) (hm1 : more ≤ 9223372036854775807) :
    Calls Tryd.prog 5 #[rawv, .int .i64 more] w fun e w' => e = .returned (.bool true) ∧ Below w.heap.size w w' := by
  have hR : Ready Tabs mx w := ⟨hT, hL, hSc, hm, h4⟩
  refine saved_whole w rawv more hm0 hm1 ?_ ?_ ?_ ?_
  · intro W hW nt
    cases nt with
    | true =>
      refine (grown_any Grow grow_root (fun n ns h => grow_is h) (fun n ns x h hl hx => grow_step n ns x h hl hx) W rawv raw (hraw.below hW) hlen hrng).mono ?_
      rintro e w' ⟨⟨n, v, ns, rfl, hg, ho⟩, hb⟩
      exact ⟨n, v, ns, rfl, ⟨(grow_is hg).2.2.1, grow_le hg⟩, fun k hk => ⟨grow_fit hg k hk, fun h => by cases h⟩, ns_of_own ho (grow_is hg).1, hb⟩
    | false =>
      refine (grown_plain (fun n ns => Grow n ns ∧ ∀ x, x ∈ ns → x.note = ⟨#[]⟩) ⟨grow_root, fun x hx => by rw [List.mem_singleton.1 hx]; rfl⟩ (fun n ns h => grow_is h.1)
        (fun n ns x h hl hx hx0 => ⟨grow_step n ns x h.1 hl hx, fun y hy => (mem_ins x ns y hy).elim (fun e => by rw [e]; exact hx0) (fun hy => h.2 y hy)⟩) W rawv raw (hraw.below hW) hlen hrng).mono ?_
      rintro e w' ⟨⟨n, v, ns, rfl, ⟨hg, hnt⟩, ho⟩, hb⟩
      exact ⟨n, v, ns, rfl, ⟨(grow_is hg).2.2.1, grow_le hg⟩, fun k hk => ⟨grow_fit hg k hk, fun _ => ⟨grow_fit hg k hk, grow_nb1 hg, hnt⟩⟩, ns_of_own ho (grow_is hg).1, hb⟩
  · intro W n v ns hW hf hns
    obtain ⟨rT, rL, rS, rm, r4⟩ := hR.below U hW
    obtain ⟨⟨hn0, hn1⟩, htree, hsz, hok⟩ := hf
    exact saved_2 U W rT rL rS mx rm r4 n hn0 hn1 v ns hns htree hsz hok
  · intro W n v ns hW hf hns
    obtain ⟨rT, rL, rS, rm, r4⟩ := hR.below U hW
    obtain ⟨⟨⟨hn0, hn1⟩, htree, hsz, _⟩, hok, hnote⟩ := hf
    exact saved_1 U W rT rL rS mx rm r4 n hn0 hn1 v ns hns htree hsz hok hnote
  · intro W n bv ns hW hb
    exact upgrade_good U W (hR.below U hW) bv n ns hb
end Go.Proofs.YtlghcldiboecoaaDoor
