/- A list of values that lies anywhere: nil, empty, or a row at any place of a block. -/
import Derived.Test.YtlghcldiboecoaaGreatDoorEnc
set_option linter.unusedVariables false
namespace Go.Proofs.YtlghcldiboecoaaGreatDoor
open Go.RowKit

/-- A list of values lies in memory as the slice v, wherever; its blocks are among S. -/
inductive WsAt (w : World) (S : Nat → Prop) : List Orch.V → Value → Prop
  | nil : WsAt w S [] (.slice none 0 0)
  | emp (a : Addr) (c : Nat) : WsAt w S [] (.slice (some a) 0 c)
  | row (ps : List (Orch.V × Value)) (g o cap : Nat) (h0 : ps ≠ []) (hcap : ps.length ≤ cap) (hS : S g)
      (hc : ∀ j u, (ps.flatMap vcell)[j]? = some u → w.cell? ⟨g, o + j, none⟩ = some u)
      (hr : ∀ p, p ∈ ps → WsAt w S p.1.l p.2) : WsAt w S (ps.map Prod.fst) (.slice (some ⟨g, o, none⟩) ps.length cap)

theorem WsAt.congr {w w' : World} {S S' : Nat → Prop} (hSS : ∀ b, S b → S' b) (hw : ∀ b, S b → w'.heap[b]? = w.heap[b]?) {ts : List Orch.V} {v : Value} (h : WsAt w S ts v) : WsAt w' S' ts v := by
  induction h with
  | nil => exact .nil
  | emp a c => exact .emp a c
  | row ps g o cap h0 hcap hS hc hr ih =>
    exact .row ps g o cap h0 hcap (hSS g hS) (fun j u hu => by rw [World.cell?_of_block (w := w) (a := ⟨g, o + j, none⟩) (hw g hS)]; exact hc j u hu) (fun p hp => ih p hp)

theorem WsAt.shape {w : World} {S : Nat → Prop} {ts : List Orch.V} {v : Value} (h : WsAt w S ts v) : ∃ a c, v = .slice a ts.length c := by
  cases h with
  | nil => exact ⟨_, _, rfl⟩
  | emp a c => exact ⟨_, _, rfl⟩
  | row ps g o cap => exact ⟨_, _, by rw [List.length_map]⟩

theorem WsAt.fam {w : World} {S : Nat → Prop} {vs : List Orch.V} {v : Value} (h : WsAt w S vs v) : ∃ ex : Nat → Value, ∀ i (hi : i < vs.length),
    ∃ g o cap, v = .slice (some ⟨g, o, none⟩) vs.length cap ∧ vs.length ≤ cap ∧ S g ∧ WsAt w S vs[i].l (ex i) ∧ ∀ j u, (vcell (vs[i], ex i))[j]? = some u → w.cell? ⟨g, o + i * 3 + j, none⟩ = some u := by
  cases h with
  | nil => exact ⟨fun _ => .slice none 0 0, fun i hi => by simp at hi⟩
  | emp a c => exact ⟨fun _ => .slice none 0 0, fun i hi => by simp at hi⟩
  | row ps g o cap h0 hcap hS hc hr =>
    refine ⟨fun i => (ps.getD i (zV, .slice none 0 0)).2, fun i hi => ?_⟩
    have hi' : i < ps.length := by simpa using hi
    have eg : ps.getD i (zV, .slice none 0 0) = ps[i] := getD_lt _ _ _ hi'
    simp only [eg]
    refine ⟨g, o, cap, by rw [List.length_map], by rw [List.length_map]; exact hcap, hS, ?_, fun j u hu => ?_⟩
    · rw [List.getElem_map]; exact hr _ (List.getElem_mem hi')
    · rw [Nat.add_assoc]
      refine hc _ u ?_
      have hj : j < 3 := by
        have := (List.getElem?_eq_some_iff.1 hu).1
        rwa [vcell_len] at this
      rw [flat_get vcell 3 vcell_len ps i j hj, List.getElem?_eq_getElem hi', Option.bind_some]
      rw [List.getElem_map] at hu
      exact hu

theorem WsAt.at {w : World} {S : Nat → Prop} {vs : List Orch.V} {v : Value} (h : WsAt w S vs v) (i : Nat) (hi : i < vs.length) :
    ∃ g o cap x, v = .slice (some ⟨g, o, none⟩) vs.length cap ∧ vs.length ≤ cap ∧ S g ∧ WsAt w S vs[i].l x ∧ ∀ j u, (vcell (vs[i], x))[j]? = some u → w.cell? ⟨g, o + i * 3 + j, none⟩ = some u := by
  obtain ⟨ex, hex⟩ := h.fam
  obtain ⟨g, o, cap, h1, h2, h3, h4, h5⟩ := hex i hi
  exact ⟨g, o, cap, ex i, h1, h2, h3, h4, h5⟩
end Go.Proofs.YtlghcldiboecoaaGreatDoor
