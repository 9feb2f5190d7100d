/- Whether the parent of each node is there. -/
import Derived.Test.YtbnoghkijgmcgaaDoorFRise
import Derived.Maps.OwnSet
import Derived.StringKeys
set_option linter.unusedVariables false
namespace Go.Proofs.YtbnoghkijgmcgaaDoor
open Go.RowKit Go.ChangeMaps
open Go.Maps (Keyed IsMap Tidy string_keyed)

def HasParents (ns : List Orch.Node) : Prop := ∀ k (h : k + 1 < ns.length), ∃ j, ∃ h' : j < ns.length, ns[j].path = parentB ns[k + 1].path

theorem key9 : Keyed Tryd.prog 9 := string_keyed Tryd.underlying9

theorem bytes_inj {a b : ByteArray} (h : a.data.toList = b.data.toList) : a = b := by
  apply ByteArray.ext
  exact Array.toList_inj.1 h

set_option maxRecDepth 8000 in
set_option maxHeartbeats 4000000 in
theorem parents_any (w : World) (nsv : Value) (B : Nat) (hB : B ≤ w.heap.size) (ns : List Orch.Node) (hns : NsAt w B nsv ns) (h1 : 1 ≤ ns.length) (hlen : ns.length ≤ 1000000) (hp : ∀ x, x ∈ ns → slash1 x.path = true ∧ x.path.size ≤ 1000) :
    Calls Tryd.prog 55 #[nsv] w fun e w' => Tells e (HasParents ns) ∧ Below w.heap.size w w' := by
  obtain ⟨b, off, cap, rfl, hcap, hblt, hcells⟩ := hns
  have HC : Hid (∀ W, Below w.heap.size w W → ∀ i (h : i < ns.length) (j : Nat) u, (ncell ns[i])[j]? = some u → W.cell? ⟨b, off + i * 6 + j, none⟩ = some u) := fun W hW i h j u hu => (hW.cell (p := ⟨b, off + i * 6 + j, none⟩) (Nat.lt_of_lt_of_le hblt hB)).trans (hcells i h j u hu)
  have HPS := hide hp
  clear hcells hp
  have hM0 := World.ownsMap_made (H := Unit) w Tryd.prog 9 (plainElem Tryd.prog 3)
  have HM0 := hide hM0
  have HB0 : Hid (Below w.heap.size w (w.alloc (.map #[] 0))) := below1 _ _
  clear hM0
  have hmm := @run_makeMap Tryd.prog
  go_enter Tryd.func55, Tryd.ntmps55
  go_wp2_with fail
  clear hmm
  generalize w.alloc (.map #[] 0) = w0 at *
  go_loopw [13] (fun i wr => ∃ (k : Nat) (D : DataW Unit), k ≤ ns.length ∧ i = .int .i64 k ∧ Hid (wr.ownsMap Tryd.prog 9 (plainElem Tryd.prog 3) w.heap.size k D) ∧ Hid (Below w.heap.size w wr) ∧ Hid (∀ s : List UInt8, Maps.has D (.string s) = true ↔ ∃ j, ∃ h : j < ns.length, j < k ∧ ns[j].path.data.toList = s))
    (fun i _ => ns.length - (intOf i).toNat)
  case atStart => exact ⟨0, .map [], Nat.zero_le _, rfl, HM0, HB0, fun s => by constructor; (intro h; simp [Maps.has] at h); (rintro ⟨j, h, h0, _⟩; omega)⟩
  case round =>
    obtain ⟨k, D, hk, rfl, HM, HB, HH⟩ := hrel
    by_cases hlt : k < ns.length
    · have hkz : (k : Int) < (ns.length : Int) := by omega
      have c0 := HC.out wr HB.out k hlt 0 _ rfl
      have c1 := HC.out wr HB.out k hlt 1 _ rfl
      have c2 := HC.out wr HB.out k hlt 2 _ rfl
      have c3 := HC.out wr HB.out k hlt 3 _ rfl
      have c4 := HC.out wr HB.out k hlt 4 _ rfl
      have c5 := HC.out wr HB.out k hlt 5 _ rfl
      rw [Nat.add_zero] at c0
      have hsz := (HPS.out ns[k] (List.getElem_mem hlt)).2
      generalize hxx : ns[k] = x at *
      obtain ⟨xp, xd, xt, xm, xch, xv⟩ := x
      simp only at c0 c1 c2 c3 c4 c5 hsz
      have HXX := hide hxx
      clear hxx
      have hkey : keyOf Tryd.prog 9 (.string xp) = some (.string xp.data.toList) := WideMaps.keyOf_string_mk Tryd.underlying9 (by unfold maxLen; omega)
      have hwf : (Lit.int .i64 (k : Int)).wf = true := WalkArith.wf_i64 (by omega)
      go_wp2_with (at_mapUpdate; refine wpList_mapUpdate_own _ rfl _ _ _ 115 rfl 9 3 key9 Tryd.underlying115 _ w.heap.size k D rfl (HM.out.alloc _) (by unfold maxLen; omega) _ _ _ rfl rfl hkey _ [] (plainElem_int Tryd.underlying3 hwf) ?_; intro w1 hown1 hgrow1)
      have hB1 : Below w.heap.size w w1 := (HB.out.alloc HB.out.size _).grown hgrow1 (by have := HB.out.size; simp; omega) (fun j hj => by injection hj with hj; omega)
      have HM1 := hide hown1
      have HB1 := hide hB1
      have HH1 : Hid (∀ s : List UInt8, Maps.has (D.put (.string xp.data.toList) (.lit (.int .i64 (k : Int)))) (.string s) = true ↔ ∃ j, ∃ h : j < ns.length, j < k + 1 ∧ ns[j].path.data.toList = s) := fun s => by
        by_cases hs : s = xp.data.toList
        · subst hs
          rw [Maps.has_put_same HM.out.isMap (by trivial)]
          simp only [true_iff]
          exact ⟨k, hlt, by omega, by rw [HXX.out]⟩
        · rw [Maps.has_put_other (fun e => hs (by injection e)), HH.out s]
          constructor
          · rintro ⟨j, h, h2, h3⟩
            exact ⟨j, h, by omega, h3⟩
          · rintro ⟨j, h, h2, h3⟩
            refine ⟨j, h, ?_, h3⟩
            rcases Nat.lt_or_ge j k with h4 | h4
            · exact h4
            · obtain rfl : j = k := by omega
              rw [HXX.out] at h3
              exact absurd h3.symm hs
      clear hown1 hgrow1 hB1
      exact ⟨⟨k + 1, _, by omega, by go_num, HM1, HB1, HH1⟩, by first | (simp [intOf]; done) | (simp [intOf]; omega)⟩
    · have hkz : ¬ (k : Int) < (ns.length : Int) := by omega
      obtain rfl : k = ns.length := by omega
      have HH2 : Hid (∀ s : List UInt8, Maps.has D (.string s) = true ↔ ∃ j, ∃ h : j < ns.length, ns[j].path.data.toList = s) := fun s => (HH.out s).trans ⟨fun ⟨j, h, _, h3⟩ => ⟨j, h, h3⟩, fun ⟨j, h, h3⟩ => ⟨j, h, h, h3⟩⟩
      clear HH
      have h1z : (1 : Int) ≤ (ns.length : Int) := by omega
      obtain ⟨n', hn'⟩ : ∃ n', ns.length - 1 = n' := ⟨_, rfl⟩
      have hn1 : ns.length = n' + 1 := by omega
      have hzero : ∀ W, (zeroValue 3).run Tryd.prog W = .ok (.int .i64 0) W := Tryd.zeroValue3
      by_cases hc1 : cap = 1
      · have hn0 : n' = 0 := by omega
        subst hn0
        have HY : Hid (HasParents ns) := fun k h => by omega
        go_wp2_with fail
        go_loopw [26] (fun i wr => i = .int .i64 0 ∧ Hid (Below w.heap.size w wr)) (fun _ _ => 0)
        case atStart => exact ⟨rfl, HB⟩
        case round =>
          obtain ⟨rfl, HBq⟩ := hrel
          go_wp2
          go_ret
          exact ⟨Tells.yes HY.out, HBq.out⟩
      · go_wp2_with fail
        go_loopw [26] (fun i wr => ∃ k : Nat, k ≤ n' ∧ i = .int .i64 k ∧ Hid (Below w.heap.size w wr) ∧ Hid (wr.ownsMap Tryd.prog 9 (plainElem Tryd.prog 3) w.heap.size (n' + 1) D) ∧ Hid (∀ j (h : j + 1 < ns.length), j < k → ∃ i, ∃ h' : i < ns.length, ns[i].path = parentB ns[j + 1].path))
          (fun i _ => n' - (intOf i).toNat)
        case atStart => exact ⟨0, Nat.zero_le _, rfl, HB, by rw [← hn1]; exact HM, fun j h h0 => by omega⟩
        case round =>
          obtain ⟨k, hk, rfl, HBq, HMq, HPq⟩ := hrel
          by_cases hlt2 : k < n'
          · have hkz2 : (k : Int) < (n' : Int) := by omega
            have hk1 : k + 1 < ns.length := by omega
            have c0 := HC.out wr HBq.out (k + 1) hk1 0 _ rfl
            have c1 := HC.out wr HBq.out (k + 1) hk1 1 _ rfl
            have c2 := HC.out wr HBq.out (k + 1) hk1 2 _ rfl
            have c3 := HC.out wr HBq.out (k + 1) hk1 3 _ rfl
            have c4 := HC.out wr HBq.out (k + 1) hk1 4 _ rfl
            have c5 := HC.out wr HBq.out (k + 1) hk1 5 _ rfl
            rw [show off + (k + 1) * 6 = off + 6 + k * 6 by omega] at c0 c1 c2 c3 c4 c5
            rw [Nat.add_zero] at c0
            obtain ⟨hsl, hsz⟩ := HPS.out ns[k + 1] (List.getElem_mem hk1)
            have HXP : Hid (∀ q : ByteArray, q = parentB ns[k + 1].path → Maps.has D (.string q.data.toList) = true → ∃ i, ∃ h' : i < ns.length, ns[i].path = parentB ns[k + 1].path) := fun q hq hh => by
              obtain ⟨i, h', he⟩ := (HH2.out _).1 hh
              exact ⟨i, h', by rw [← hq]; exact bytes_inj he⟩
            have HXN : Hid (∀ q : ByteArray, q = parentB ns[k + 1].path → Maps.has D (.string q.data.toList) = false → ¬ HasParents ns) := fun q hq hh hp => by
              obtain ⟨i, h', he⟩ := hp k hk1
              have := (HH2.out q.data.toList).2 ⟨i, h', by rw [hq, he]⟩
              rw [hh] at this
              cases this
            generalize hxx : ns[k + 1] = x at *
            obtain ⟨xp, xd, xt, xm, xch, xv⟩ := x
            simp only at c0 c1 c2 c3 c4 c5 hsl hsz HXP HXN
            have HPA : Hid (∀ W, Calls Tryd.prog 66 #[.string xp] W fun e w' => e = .returned (.string (parentB xp)) ∧ w' = W) := fun W => parent_any W xp (by omega) hsl
            have hps : (parentB xp).size ≤ maxLen := by
              have : (parentB xp).size ≤ 1000 + 1 := by
                unfold parentB
                split
                · exact (by decide : (⟨#[47]⟩ : ByteArray).size ≤ 1001)
                · rw [ByteArray.size_extract]; omega
              unfold maxLen
              omega
            have hkey : keyOf Tryd.prog 9 (.string (parentB xp)) = some (.string (parentB xp).data.toList) := WideMaps.keyOf_string_mk Tryd.underlying9 hps
            have hxp := HXP.out _ rfl
            have hxn := HXN.out _ rfl
            have HXP2 := hide hxp
            have HXN2 := hide hxn
            have HXX := hide hxx
            clear HXP HXN hxp hxn hps hxx
            generalize hQ : parentB xp = Q at *
            have HQ := hide hQ
            clear hQ
            have HBa : Hid (Below w.heap.size w (wr.alloc (.cells #[.string xp, .string xd, .string xt, .int .i64 xm, .int .i64 xch, .int .i64 xv] 69))) := HBq.out.alloc HBq.out.size _
            cases hh : Maps.has D (.string Q.data.toList) with
            | true =>
              go_wp2_with (first
                | (go_at_call 66; refine (HPA.out _).mono ?_; rintro e w3 ⟨rfl, rfl⟩)
                | (at_lookup; refine wpList_lookup_own_ok_int _ rfl _ _ 115 rfl 9 3 .i64 key9 Tryd.underlying115 Tryd.underlying3 (hzero _) w.heap.size (n' + 1) D rfl (HMq.out.alloc _) _ _ rfl hkey ?_; intro c hat hwc; rw [hh]))
              refine ⟨⟨k + 1, by omega, by go_num, HBa, HMq.out.alloc _, fun j h hj => ?_⟩, by first | (simp [intOf]; done) | (simp [intOf]; omega)⟩
              rcases Nat.lt_or_ge j k with h4 | h4
              · exact HPq.out j h h4
              · obtain rfl : j = k := by omega
                obtain ⟨i, h', he⟩ := HXP2.out hh
                exact ⟨i, h', by rw [he, HXX.out, ← HQ.out]⟩
            | false =>
              go_wp2_with (first
                | (go_at_call 66; refine (HPA.out _).mono ?_; rintro e w3 ⟨rfl, rfl⟩)
                | (at_lookup; refine wpList_lookup_own_ok_int _ rfl _ _ 115 rfl 9 3 .i64 key9 Tryd.underlying115 Tryd.underlying3 (hzero _) w.heap.size (n' + 1) D rfl (HMq.out.alloc _) _ _ rfl hkey ?_; intro c hat hwc; rw [hh]))
              go_ret
              exact ⟨Tells.no (HXN2.out hh), HBa.out⟩
          · have hkz2 : ¬ (k : Int) < (n' : Int) := by omega
            go_wp2
            go_ret
            exact ⟨Tells.yes (fun j h => HPq.out j h (by omega)), HBq.out⟩
end Go.Proofs.YtbnoghkijgmcgaaDoor
