/- Two goroutines that work, beside others that only leave: whoever is picked, the machine comes to the pair's end, if every step of either keeps an invariant and lowers its measure. -/
import Derived.Conc.Beside
import Derived.Conc.CrowdComm
set_option linter.unusedVariables false
namespace Go.Pair
open Go Go.Conc
open Go.ConcN (sumTo upd sumTo_upd upd_ne upd_same)

structure Others (P : Program) (t : Trace) (gs : Array Goroutine) (k : Nat) (q : Nat → Nat) : Prop where
  old : ∀ i g, 0 < i → i ≠ k → gs[i]? = some g → QuitsD P (q i) (Deaf t i) g
  above : ∀ j, gs.size ≤ j → Deaf t j = 0

def StepA (P : Program) (k : Nat) (a b : Goroutine) (w : World) (t : Trace) (K : Goroutine → Goroutine → World → Trace → Prop) : Prop :=
  (∃ a' w' es, stepG P true a w = .go a' w' es ∧ K a' (woken P a a' w' b) w' (t ++ MemOp.ofEvents 0 a.frame.fn a.frame.place es)) ∨
  (∃ a₂ c z es s r tm, stepG P true a w = .comm a₂ #[rcase c z] true (.recv true) w es ∧ w.heap[c]? = some (.chan 0 #[] false s r tm) ∧ b.status ≠ .blocked ∧
    K (parked a₂ #[rcase c z] (.recv true)) b w (t ++ MemOp.ofEvents 0 a.frame.fn a.frame.place es)) ∨
  (∃ a₂ c z es s r tm b₂ v z', stepG P true a w = .comm a₂ #[rcase c z] true (.recv true) w es ∧ w.heap[c]? = some (.chan 0 #[] false s r tm) ∧ b = parked b₂ #[scase c v z'] .send ∧
    K (Conc.served a₂ (.tuple #[v, .bool true])) (Conc.served b₂ undef) (w.setChan c 0 #[] false (s + 1) (r + 1) tm) (t ++ (MemOp.ofEvents 0 a.frame.fn a.frame.place es ++
      #[{ g := k, fn := b₂.frame.fn, pos := b₂.frame.place, act := .send c s }, { g := 0, fn := a₂.frame.fn, pos := a₂.frame.place, act := .recv c r 0 },
        { g := k, fn := b₂.frame.fn, pos := b₂.frame.place, act := .sendDone c s }, { g := 0, fn := a₂.frame.fn, pos := a₂.frame.place, act := .recvDone c r }]))) ∨
  (∃ a₂ c z es s r tm, stepG P true a w = .comm a₂ #[rcase c z] true (.recv true) w es ∧ w.heap[c]? = some (.chan 0 #[] true s r tm) ∧ b.status ≠ .blocked ∧
    K (Conc.served a₂ (.tuple #[z, .bool false])) b w (t ++ (MemOp.ofEvents 0 a.frame.fn a.frame.place es ++ #[{ g := 0, fn := a₂.frame.fn, pos := a₂.frame.place, act := .recvClosed c }])))

def StepB (P : Program) (k : Nat) (a b : Goroutine) (w : World) (t : Trace) (K : Goroutine → Goroutine → World → Trace → Prop) : Prop :=
  (∃ b' w' es, stepG P false b w = .go b' w' es ∧ K (woken P b b' w' a) b' w' (t ++ MemOp.ofEvents k b.frame.fn b.frame.place es)) ∨
  (∃ b₂ c v z es s r tm, stepG P false b w = .comm b₂ #[scase c v z] true .send w es ∧ w.heap[c]? = some (.chan 0 #[] false s r tm) ∧ a.status ≠ .blocked ∧
    K a (parked b₂ #[scase c v z] .send) w (t ++ MemOp.ofEvents k b.frame.fn b.frame.place es)) ∨
  (∃ b₂ c v z es s r tm a₂ z', stepG P false b w = .comm b₂ #[scase c v z] true .send w es ∧ w.heap[c]? = some (.chan 0 #[] false s r tm) ∧ a = parked a₂ #[rcase c z'] (.recv true) ∧
    K (Conc.served a₂ (.tuple #[v, .bool true])) (Conc.served b₂ undef) (w.setChan c 0 #[] false (s + 1) (r + 1) tm) (t ++ (MemOp.ofEvents k b.frame.fn b.frame.place es ++
      #[{ g := k, fn := b₂.frame.fn, pos := b₂.frame.place, act := .send c s }, { g := 0, fn := a₂.frame.fn, pos := a₂.frame.place, act := .recv c r 0 },
        { g := k, fn := b₂.frame.fn, pos := b₂.frame.place, act := .sendDone c s }, { g := 0, fn := a₂.frame.fn, pos := a₂.frame.place, act := .recvDone c r }])))

section
variable {P : Program} {k : Nat} {t : Trace} {gs : Array Goroutine} {q : Nat → Nat}

theorem Others.notBlocked (h : Others P t gs k q) {i : Nat} {g : Goroutine} (h0 : 0 < i) (hk : i ≠ k) (hi : gs[i]? = some g) : g.status ≠ .blocked := by
  intro e
  rcases (h.old i g h0 hk hi).status with x | x <;> rw [x] at e <;> cases e

theorem Others.app {u : Trace} {gs' : Array Goroutine} (hk : 0 < k) (h : Others P t gs k q) (hu : ∀ op ∈ u, op.g = 0 ∨ op.g = k) (hsz : gs'.size = gs.size) (hkb : k < gs.size) (hgs : ∀ i g, 0 < i → i ≠ k → gs'[i]? = some g → gs[i]? = some g) : Others P (t ++ u) gs' k q := by
  have hd : ∀ j, j ≠ 0 → j ≠ k → Deaf (t ++ u) j = Deaf t j := by
    intro j h0 hjk
    have e : ∀ (l : List MemOp), (∀ op ∈ l, op.g = 0 ∨ op.g = k) → ∀ d, l.foldl (deafStep j) d = d := by
      intro l
      induction l with
      | nil => intros; rfl
      | cons y l ih =>
        intro hl d
        rw [List.foldl_cons, ih (fun op hop => hl op (by simp [hop]))]
        unfold deafStep
        have hy : y.g ≠ j := by rcases hl y (by simp) with e | e <;> rw [e] <;> omega
        split <;> simp [hy]
    have := Deaf_append t j u.toList
    simp only [Array.toArray_toList] at this
    rw [this]
    exact e _ (fun op hop => hu op (by simpa using hop)) _
  refine ⟨fun i g h0 hik hi => ?_, fun j hj => ?_⟩
  · rw [hd i (by omega) hik]
    exact h.old i g h0 hik (hgs i g h0 hik hi)
  · rw [hsz] at hj
    rw [hd j (by omega) (by omega)]
    exact h.above j hj

end

section
variable {P : Program} {k : Nat} {α : Type} {lt : α → α → Prop} {J : α → Goroutine → Goroutine → World → Trace → Prop} {Fin : Goroutine → Goroutine → World → Trace → Prop}

theorem g_ofEvents {g : Nat} {fn : FuncId} {pos : String} {es : Array Event} {op : MemOp} (h : op ∈ MemOp.ofEvents g fn pos es) : op.g = g := by
  obtain ⟨e, _, rfl⟩ := Conc.mem_ofEvents h
  rfl

theorem pair_run (hk : 0 < k) (wf : WellFounded lt)
    (hAt : ∀ μ a b w t d, J μ a b w t → J μ a b (w.at d) t)
    (hFin : ∀ a b w t d, Fin a b (w.at d) t → Fin a b w t)
    (hMute : ∀ μ a b w t i fn pos es, i ≠ 0 → i ≠ k → (∀ e ∈ es, Event.mute e = true) → J μ a b w t → J μ a b w (t ++ MemOp.ofEvents i fn pos es))
    (hWake : ∀ μ a b w t g g', J μ a b w t → ∃ μ', J μ' (woken P g g' w a) (woken P g g' w b) w t)
    (hAwake : ∀ μ a b w t, J μ a b w t → awake a ∧ awake b ∧ (a.status = .running ∨ b.status = .running))
    (hStep : ∀ μ a b w t, J μ a b w t → Fin a b w t ∨ ((a.status = .running → StepA P k a b w t fun a' b' w' t' => ∃ μ', lt μ' μ ∧ J μ' a' b' w' t') ∧ (b.status = .running → StepB P k a b w t fun a' b' w' t' => ∃ μ', lt μ' μ ∧ J μ' a' b' w' t'))) :
    ∀ (M : Nat) (μ : α) (gs : Array Goroutine) (a b : Goroutine) (w : World) (sl : Option (Nat × Nat)) (t : Trace) (q : Nat → Nat), sumTo gs.size q ≤ M → gs[0]? = some a → gs[k]? = some b → Others P t gs k q → J μ a b w t →
      ∃ (N : Nat) (gs' : Array Goroutine) (a' b' : Goroutine) (w' : World) (sl' : Option (Nat × Nat)) (t' : Trace) (q' : Nat → Nat),
        runNT P N (crowd gs w sl) t = (.next (crowd gs' w' sl'), t') ∧ gs'.size = gs.size ∧ gs'[0]? = some a' ∧ gs'[k]? = some b' ∧ Fin a' b' w' t' ∧ Others P t' gs' k q' := by
  intro M
  induction M using Nat.strongRecOn with
  | _ M ihM =>
  intro μ
  induction μ using wf.induction with
  | _ μ ihμ =>
  intro gs a b w sl t q hM h0 hb hO hJ
  by_cases hF : Fin a b w t
  · exact ⟨0, gs, a, b, w, sl, t, q, rfl, rfl, h0, hb, hF, hO⟩
  obtain ⟨hwa, hwb, hrun⟩ := hAwake μ a b w t hJ
  have hlt0 : 0 < gs.size := (Array.getElem?_eq_some_iff.1 h0).1
  have hltk : k < gs.size := (Array.getElem?_eq_some_iff.1 hb).1
  have haw : ∀ g ∈ gs, awake g := by
    intro g hg
    obtain ⟨i, hi, rfl⟩ := Array.mem_iff_getElem.1 hg
    rcases Nat.eq_zero_or_pos i with rfl | hpos
    · have : gs[0] = a := by simpa [Array.getElem?_eq_getElem hi] using h0
      rw [this]; exact hwa
    · by_cases hik : i = k
      · subst hik
        have : gs[i] = b := by simpa [Array.getElem?_eq_getElem hi] using hb
        rw [this]; exact hwb
      · exact awake_of ((hO.old i _ hpos hik (Array.getElem?_eq_getElem hi)).status.elim .inl fun x => .inr (.inr x))
  obtain ⟨i, g, d, sl', hi, hg, hst⟩ := crowd_pick (P := P) (w := w) (sl := sl) haw (by
    rcases hrun with h | h
    · exact ⟨0, a, h0, h⟩
    · exact ⟨k, b, hb, h⟩)
  have hJd := hAt μ a b w t d hJ
  have hFd : ¬ Fin a b (w.at d) t := fun h => hF (hFin _ _ _ _ d h)
  have goOn : ∀ (gs' : Array Goroutine) (a' b' : Goroutine) (w' : World) (u : Trace), stepT P (crowd gs w sl) = (.next (crowd gs' w' sl'), u) → gs'.size = gs.size → gs'[0]? = some a' → gs'[k]? = some b' → Others P (t ++ u) gs' k q → (∃ μ', lt μ' μ ∧ J μ' a' b' w' (t ++ u)) →
      ∃ (N : Nat) (gs'' : Array Goroutine) (a'' b'' : Goroutine) (w'' : World) (sl'' : Option (Nat × Nat)) (t'' : Trace) (q'' : Nat → Nat),
        runNT P N (crowd gs w sl) t = (.next (crowd gs'' w'' sl''), t'') ∧ gs''.size = gs.size ∧ gs''[0]? = some a'' ∧ gs''[k]? = some b'' ∧ Fin a'' b'' w'' t'' ∧ Others P t'' gs'' k q'' := by
    intro gs' a' b' w' u hs hsz h0' hb' hO' ⟨μ', hlt, hJ'⟩
    obtain ⟨N, gs'', a'', b'', w'', sl'', t'', q'', hr, hz, x0, xb, xF, xO⟩ := ihμ μ' hlt gs' a' b' w' sl' (t ++ u) q (by rw [hsz]; exact hM) h0' hb' hO' hJ'
    exact ⟨N + 1, gs'', a'', b'', w'', sl'', t'', q'', by simp only [runNT, hs]; exact hr, hz.trans hsz, x0, xb, xF, xO⟩
  have own : ∀ (g' : Nat), (g' = 0 ∨ g' = k) → ∀ fn pos es, ∀ op ∈ MemOp.ofEvents g' fn pos es, op.g = 0 ∨ op.g = k := fun g' hg' fn pos es op hop => by rw [g_ofEvents hop]; exact hg'
  rcases Nat.eq_zero_or_pos i with rfl | hpos
  · -- goroutine 0
    obtain rfl : g = a := by rw [h0] at hi; exact (Option.some.inj hi).symm
    rcases hStep μ g b (w.at d) t hJd with hF' | ⟨hSA, _⟩
    · exact absurd hF' hFd
    rcases hSA hg with ⟨a', w', es, hs, hK⟩ | ⟨a₂, c, z, es, s, r, tm, hs, hc, hnb, hK⟩ | ⟨a₂, c, z, es, s, r, tm, b₂, v, z', hs, hc, rfl, hK⟩ | ⟨a₂, c, z, es, s, r, tm, hs, hc, hnb, hK⟩
    · refine goOn ((gs.map (woken P g a' w')).setIfInBounds 0 a') a' (woken P g a' w' b) w' _ (hst.trans (runT_crowd_go (P := P) (sl := sl') (i := 0) hi (show stepG P (0 == 0) g (w.at d) = _ from hs))) (by simp) (by simp [hlt0]) ?_ (hO.app hk (own 0 (.inl rfl) _ _ _) (by simp) hltk fun j x hj hjk hx => ?_) hK
      · rw [Array.getElem?_setIfInBounds_ne (by omega), Array.getElem?_map, hb]; rfl
      · rw [Array.getElem?_setIfInBounds_ne (by omega), Array.getElem?_map] at hx
        obtain ⟨y, hy, rfl⟩ := Option.map_eq_some_iff.1 hx
        rw [woken_quitsD (hO.old j y hj hjk hy)]
        exact hy
    · have hp : partners (gs.setIfInBounds 0 ph) c true = [] := partners_nil fun j x hx => by
        rcases getElem?_stand gs 0 j x hx with ⟨_, rfl⟩ | ⟨hj, hx'⟩
        · exact offersAt_ph _ _
        · by_cases hjk : j = k
          · subst hjk
            rw [hb] at hx'
            obtain rfl := Option.some.inj hx'
            exact offersAt_of_not_blocked hnb _ _
          · exact offersAt_of_not_blocked (hO.notBlocked (by omega) hjk hx') _ _
      refine goOn (gs.setIfInBounds 0 (parked a₂ #[rcase c z] (.recv true))) _ b (w.at d) _ (hst.trans (crowd_waits (P := P) (sl := sl') (i := 0) hi (show stepG P (0 == 0) g (w.at d) = _ from hs) fun cc hcc => ?_)) (by simp) (by simp [hlt0]) ?_ (hO.app hk (own 0 (.inl rfl) _ _ _) (by simp) hltk fun j x hj hjk hx => ?_) hK
      · obtain rfl : cc = rcase c z := by simpa using hcc
        exact ways_recv_none hc hp
      · rw [Array.getElem?_setIfInBounds_ne (by omega)]; exact hb
      · rwa [Array.getElem?_setIfInBounds_ne (by omega)] at hx
    · have hp : partners (gs.setIfInBounds 0 ph) c true = [(k, 0)] := by
        rw [partners_one (stand_get (by omega) hb) fun j x hj hx => ?_]
        · simp [offersAt_parked_send]
        · rcases getElem?_stand gs 0 j x hx with ⟨_, rfl⟩ | ⟨hj0, hx'⟩
          · exact offersAt_ph _ _
          · exact offersAt_of_not_blocked (hO.notBlocked (by omega) hj hx') _ _
      refine goOn _ _ _ _ _ (hst.trans (crowd_recv_meets (P := P) (sl := sl') (i := 0) (j := k) hi (show stepG P (0 == 0) g (w.at d) = _ from hs) hc (by omega) hb hp)) (by simp) (by simp [hlt0]; rfl) ?_ (hO.app hk ?_ (by simp) hltk fun j x hj hjk hx => ?_) hK
      · rw [Array.getElem?_setIfInBounds_ne (by omega), Array.getElem?_setIfInBounds_self_of_lt hltk]; rfl
      · intro op hop
        rcases Array.mem_append.1 hop with hop | hop
        · exact own 0 (.inl rfl) _ _ _ op hop
        · simp at hop
          rcases hop with rfl | rfl | rfl | rfl <;> simp
      · rwa [Array.getElem?_setIfInBounds_ne (by omega), Array.getElem?_setIfInBounds_ne (by omega)] at hx
    · have hp : partners (gs.setIfInBounds 0 ph) c true = [] := partners_nil fun j x hx => by
        rcases getElem?_stand gs 0 j x hx with ⟨_, rfl⟩ | ⟨hj, hx'⟩
        · exact offersAt_ph _ _
        · by_cases hjk : j = k
          · subst hjk
            rw [hb] at hx'
            obtain rfl := Option.some.inj hx'
            exact offersAt_of_not_blocked hnb _ _
          · exact offersAt_of_not_blocked (hO.notBlocked (by omega) hjk hx') _ _
      refine goOn _ _ b (w.at d) _ (hst.trans (crowd_recv_closed (P := P) (sl := sl') (i := 0) hi (show stepG P (0 == 0) g (w.at d) = _ from hs) hc hp)) (by simp) (by simp [hlt0]; rfl) ?_ (hO.app hk ?_ (by simp) hltk fun j x hj hjk hx => ?_) hK
      · rw [Array.getElem?_setIfInBounds_ne (by omega)]; exact hb
      · intro op hop
        rcases Array.mem_append.1 hop with hop | hop
        · exact own 0 (.inl rfl) _ _ _ op hop
        · simp at hop
          rw [hop]; simp
      · rwa [Array.getElem?_setIfInBounds_ne (by omega)] at hx
  · by_cases hik : i = k
    · -- goroutine k
      subst hik
      obtain rfl : g = b := by rw [hb] at hi; exact (Option.some.inj hi).symm
      have hi0 : (i == 0) = false := by simp; omega
      rcases hStep μ a g (w.at d) t hJd with hF' | ⟨_, hSB⟩
      · exact absurd hF' hFd
      rcases hSB hg with ⟨b', w', es, hs, hK⟩ | ⟨b₂, c, v, z, es, s, r, tm, hs, hc, hna, hK⟩ | ⟨b₂, c, v, z, es, s, r, tm, a₂, z', hs, hc, rfl, hK⟩
      · refine goOn ((gs.map (woken P g b' w')).setIfInBounds i b') (woken P g b' w' a) b' w' _ (hst.trans (runT_crowd_go (P := P) (sl := sl') (i := i) hi (by rw [hi0]; exact hs))) (by simp) ?_ (by simp [hltk]) (hO.app hk (own i (.inr rfl) _ _ _) (by simp) hltk fun j x hj hjk hx => ?_) hK
        · rw [Array.getElem?_setIfInBounds_ne (by omega), Array.getElem?_map, h0]; rfl
        · rw [Array.getElem?_setIfInBounds_ne (by omega), Array.getElem?_map] at hx
          obtain ⟨y, hy, rfl⟩ := Option.map_eq_some_iff.1 hx
          rw [woken_quitsD (hO.old j y hj hjk hy)]
          exact hy
      · have hp : partners (gs.setIfInBounds i ph) c false = [] := partners_nil fun j x hx => by
          rcases getElem?_stand gs i j x hx with ⟨_, rfl⟩ | ⟨hj, hx'⟩
          · exact offersAt_ph _ _
          · rcases Nat.eq_zero_or_pos j with rfl | hj0
            · rw [h0] at hx'
              obtain rfl := Option.some.inj hx'
              exact offersAt_of_not_blocked hna _ _
            · exact offersAt_of_not_blocked (hO.notBlocked hj0 hj hx') _ _
        refine goOn (gs.setIfInBounds i (parked b₂ #[scase c v z] .send)) a _ (w.at d) _ (hst.trans (crowd_waits (P := P) (sl := sl') (i := i) hi (by rw [hi0]; exact hs) fun cc hcc => ?_)) (by simp) ?_ (by simp [hltk]) (hO.app hk (own i (.inr rfl) _ _ _) (by simp) hltk fun j x hj hjk hx => ?_) hK
        · obtain rfl : cc = scase c v z := by simpa using hcc
          exact ways_send_none hc (by simp) hp
        · rw [Array.getElem?_setIfInBounds_ne (by omega)]; exact h0
        · rwa [Array.getElem?_setIfInBounds_ne (by omega)] at hx
      · have hp : partners (gs.setIfInBounds i ph) c false = [(0, 0)] := by
          rw [partners_one (stand_get (by omega) h0) fun j x hj hx => ?_]
          · simp [offersAt_parked_recv]
          · rcases getElem?_stand gs i j x hx with ⟨_, rfl⟩ | ⟨hji, hx'⟩
            · exact offersAt_ph _ _
            · exact offersAt_of_not_blocked (hO.notBlocked (by omega) hji hx') _ _
        refine goOn _ _ _ _ _ (hst.trans (crowd_send_meets (P := P) (sl := sl') (i := i) (j := 0) hi (by rw [hi0]; exact hs) hc (by omega) h0 hp)) (by simp) ?_ (by simp [hltk]; rfl) (hO.app hk ?_ (by simp) hltk fun j x hj hjk hx => ?_) hK
        · rw [Array.getElem?_setIfInBounds_ne (by omega), Array.getElem?_setIfInBounds_self_of_lt hlt0]; rfl
        · intro op hop
          rcases Array.mem_append.1 hop with hop | hop
          · exact own i (.inr rfl) _ _ _ op hop
          · simp at hop
            rcases hop with rfl | rfl | rfl | rfl <;> simp
        · rwa [Array.getElem?_setIfInBounds_ne (by omega), Array.getElem?_setIfInBounds_ne (by omega)] at hx
    · -- one that leaves
      have hq := hO.old i g hpos hik hi
      have hi0 : (i == 0) = false := by simp; omega
      have hlt : i < gs.size := (Array.getElem?_eq_some_iff.1 hi).1
      cases hqi : q i with
      | zero => rw [hqi] at hq; rw [hq.1] at hg; cases hg
      | succ m =>
        rw [hqi] at hq
        rcases hq with ⟨hf, _⟩ | ⟨_, g', es, hm, hstp, hq'⟩
        · rw [hf] at hg; cases hg
        have hrunT := runT_crowd_go (P := P) (sl := sl') (i := i) hi (by rw [hi0]; exact hstp (w.at d))
        have hsz : ((gs.map (woken P g g' (w.at d))).setIfInBounds i g').size = gs.size := by simp
        have hsum : sumTo gs.size (upd q i m) + (m + 1) = sumTo gs.size q + m := by
          have := sumTo_upd q m id hlt
          simpa [hqi] using this
        obtain ⟨μ', hJ'⟩ := hWake μ a b (w.at d) t g g' hJd
        have hJ'' := hMute μ' _ _ _ _ i g.frame.fn g.frame.place es (by omega) hik hm hJ'
        obtain ⟨N, gs'', a'', b'', w'', sl'', t'', q'', hr, hz, x0, xb, xF, xO⟩ := ihM (sumTo gs.size (upd q i m)) (by omega) μ' ((gs.map (woken P g g' (w.at d))).setIfInBounds i g') (woken P g g' (w.at d) a) (woken P g g' (w.at d) b) (w.at d) sl' (t ++ MemOp.ofEvents i g.frame.fn g.frame.place es) (upd q i m) (by rw [hsz]; exact Nat.le_refl _)
          (by rw [Array.getElem?_setIfInBounds_ne (by omega), Array.getElem?_map, h0]; rfl)
          (by rw [Array.getElem?_setIfInBounds_ne hik, Array.getElem?_map, hb]; rfl)
          ⟨fun j x hj hjk hx => by
            by_cases hji : i = j
            · subst hji
              rw [Array.getElem?_setIfInBounds_self_of_lt (by simpa using hlt)] at hx
              obtain rfl := Option.some.inj hx
              rw [upd_same, Deaf_own]
              exact hq'
            · rw [Array.getElem?_setIfInBounds_ne hji, Array.getElem?_map] at hx
              obtain ⟨y, hy, rfl⟩ := Option.map_eq_some_iff.1 hx
              have hqj := hO.old j y hj hjk hy
              rw [woken_quitsD hqj, upd_ne q m (Ne.symm hji), Deaf_other t hji _ (fun op hop => g_ofEvents hop)]
              exact hqj, fun j hj => by
            rw [Deaf_other t (g' := i) (by simp at hj; omega) _ (fun op hop => g_ofEvents hop)]
            exact hO.above j (by simpa using hj)⟩ hJ''
        exact ⟨N + 1, gs'', a'', b'', w'', sl'', t'', q'', by simp only [runNT, hst, hrunT]; exact hr, hz.trans hsz, x0, xb, xF, xO⟩

end
end Go.Pair

/- What is held of the trace while two goroutines work beside one another on memory of their own, and how one hands all over to the other by a WaitGroup. -/
namespace Go.Pair
open Go Go.Conc

def IsWg (Wg : Nat) (l : Loc) : Prop := ∃ a, l = .cell a ∧ a.block = Wg

def kindOf : Obj → Option TypeId
  | .cells _ e _ => some e
  | _ => none

structure Grow (w w' : World) : Prop where
  size : w.heap.size ≤ w'.heap.size
  kind : ∀ (i : Nat) (o : Obj), w.heap[i]? = some o → ∃ o', w'.heap[i]? = some o' ∧ kindOf o' = kindOf o

theorem Grow.refl (w : World) : Grow w w := ⟨Nat.le_refl _, fun i o h => ⟨o, h, rfl⟩⟩
theorem Grow.at (w : World) (d : Nat) : Grow w (w.at d) := ⟨Nat.le_refl _, fun i o h => ⟨o, h, rfl⟩⟩

structure Parts (Shun : Loc → Prop) (Wg Ch : Nat) (LA LB : World → Loc → Bool → Prop) : Prop where
  apart : ∀ w l x y, LA w l x → LB w l y → x = false ∧ y = false
  aOut : ∀ w l x, LA w l x → ¬ IsWg Wg l ∧ l ≠ .obj Ch ∧ ¬ Shun l
  bOut : ∀ w l x, LB w l x → ¬ IsWg Wg l ∧ l ≠ .obj Ch ∧ ¬ Shun l
  aGrow : ∀ w w' l x, Grow w w' → LA w l x → LA w' l x
  bGrow : ∀ w w' l x, Grow w w' → LB w l x → LB w' l x
  wgS : ∀ l, IsWg Wg l → ¬ Shun l
  chS : ¬ Shun (.obj Ch)

section
variable (Shun : Loc → Prop) (k Wg Ch : Nat) (LA LB : World → Loc → Bool → Prop)

structure TI (t : Trace) (w : World) (dA dB : Nat) : Prop where
  clean : ∀ said, ¬ Race said t
  knA : ∀ i a, touchAt t i = some a → a.loc.isMemory = true → Knows t 0 i ∨ (Shun a.loc ∧ a.kind = .atomic) ∨ (t.g? i = some k ∧ (LB w a.loc a.write ∨ ((IsWg Wg a.loc ∨ a.loc = .obj Ch) ∧ a.kind = .atomic)))
  knB : ∀ i a, touchAt t i = some a → a.loc.isMemory = true → Knows t k i ∨ (Shun a.loc ∧ a.kind = .atomic) ∨ (t.g? i = some 0 ∧ (LA w a.loc a.write ∨ (IsWg Wg a.loc ∧ a.kind ≠ .plain)))
  over : ∀ i g, t.g? i = some g → g ≠ 0 → g ≠ k → t.counts i → ∃ j, t.g? j = some 0 ∧ HappensBefore t i j
  dA : Deaf t 0 = dA
  dB : Deaf t k = dB
  seen : ∀ op ∈ t, op.act.low w.heap.size

end

section
variable {Shun : Loc → Prop} {k Wg Ch : Nat} {LA LB : World → Loc → Bool → Prop} {t u : Trace} {w w' : World} {dA dB : Nat}

theorem over_app {k : Nat} (h : ∀ i g, t.g? i = some g → g ≠ 0 → g ≠ k → t.counts i → ∃ j, t.g? j = some 0 ∧ HappensBefore t i j) (hu : ∀ op ∈ u, op.g = 0 ∨ op.g = k ∨ op.act.touch? = none) :
    ∀ i g, (t ++ u).g? i = some g → g ≠ 0 → g ≠ k → (t ++ u).counts i → ∃ j, (t ++ u).g? j = some 0 ∧ HappensBefore (t ++ u) i j := by
  intro i g hg hne hnk hc
  obtain ⟨x, hx, hx2⟩ := hc
  obtain ⟨op, hop, hox⟩ := touch_of hx
  rcases getElem?_append_cases hop with ⟨hi, hop'⟩ | ⟨_, hopu⟩
  · obtain ⟨j, hj, hb⟩ := h i g (by simpa [Trace.g?, getElem?_append_old hi] using hg) hne hnk ((counts_old hi).1 ⟨x, hx, hx2⟩)
    have hjl : j < t.size := by
      unfold Trace.g? at hj
      obtain ⟨z, hz, _⟩ := Option.map_eq_some_iff.1 hj
      exact lt_size_of_getElem? hz
    exact ⟨j, by simpa [Trace.g?, getElem?_append_old hjl] using hj, hb_app u hb⟩
  · have hgo : op.g = g := by simpa [Trace.g?, hop] using hg
    rcases hu op hopu with h0 | h0 | h0
    · exact absurd (hgo.symm.trans h0) hne
    · exact absurd (hgo.symm.trans h0) hnk
    · rw [h0] at hox; cases hox

theorem g?_at {t u : Trace} {i : Nat} {g : Nat} (h : t.g? i = some g) : (t ++ u).g? i = some g := by
  unfold Trace.g? at h
  obtain ⟨z, hz, hzg⟩ := Option.map_eq_some_iff.1 h
  rw [g?_old (lt_size_of_getElem? hz)]
  unfold Trace.g?
  rw [hz]; exact congrArg some hzg

theorem seen_grow (h : ∀ op ∈ t, op.act.low w.heap.size) (hs : w.heap.size ≤ w'.heap.size) (hu : ∀ op ∈ u, op.act.low w'.heap.size) : ∀ op ∈ t ++ u, op.act.low w'.heap.size :=
  seen_app (fun op hop => MemAct.low_mono hs (h op hop)) hu

theorem TI.appA (Q : Parts Shun Wg Ch LA LB) (hk : 0 < k) (h : TI Shun k Wg Ch LA LB t w dA dB) (hg : Grow w w') (hu : ∀ op ∈ u, op.g = 0) {dA' : Nat}
    (hs : ∀ op ∈ u, ∀ b, op.act.touch? = some b → b.loc.isMemory = true → LA w' b.loc b.write ∨ (IsWg Wg b.loc ∧ b.kind ≠ .plain)) (hd : Deaf (t ++ u) 0 = dA') (hl : ∀ op ∈ u, op.act.low w'.heap.size) : TI Shun k Wg Ch LA LB (t ++ u) w' dA' dB := by
  refine ⟨fun said => noRace_append (h.clean said) hu fun i a ha op hop b hb hc => ?_, fun i a ha hm => ?_, fun i a ha hm => ?_, over_app h.over fun op hop => .inl (hu op hop), hd, ?_, seen_grow h.seen hg.size hl⟩
  · have hm : b.loc.isMemory = true := hc.1 ▸ hc.2.1
    rcases h.knA i a ha hc.2.1 with hk' | ⟨hsa, _⟩ | ⟨_, hB⟩
    · exact hk'
    · exfalso
      rcases hs op hop b hb hm with h1 | ⟨h1, _⟩
      · exact (Q.aOut _ _ _ h1).2.2 (hc.1 ▸ hsa)
      · exact Q.wgS _ h1 (hc.1 ▸ hsa)
    · exfalso
      obtain ⟨e, _, hw, hcase⟩ := hc
      rcases hB with hB | ⟨hB, hat⟩
      · rcases hs op hop b hb hm with h1 | ⟨h1, _⟩
        · have := Q.apart w' b.loc b.write a.write h1 (e ▸ Q.bGrow _ _ _ _ hg hB)
          rcases hw with hw | hw
          · rw [this.2] at hw; cases hw
          · rw [this.1] at hw; cases hw
        · exact (Q.bOut _ _ _ hB).1 (e ▸ h1)
      · rcases hs op hop b hb hm with h1 | ⟨h1, hnp⟩
        · rcases hB with hB | hB
          · exact (Q.aOut _ _ _ h1).1 (e ▸ hB)
          · exact (Q.aOut _ _ _ h1).2.1 (e ▸ hB)
        · rw [hat] at hcase
          rcases hcase with x | x | ⟨_, x, _⟩
          · cases x
          · exact hnp x
          · cases x
  · obtain ⟨x, hx, hxa⟩ := touch_of ha
    rcases getElem?_append_cases hx with ⟨_, hx'⟩ | ⟨_, hxu⟩
    · rcases h.knA i a (by rw [touchAt_of hx']; exact hxa) hm with h1 | h1 | ⟨h1, h2⟩
      · exact .inl (h1.app u)
      · exact .inr (.inl h1)
      · exact .inr (.inr ⟨g?_at h1, h2.imp (Q.bGrow _ _ _ _ hg) id⟩)
    · have := knows_own hx
      rw [hu x hxu] at this
      exact .inl this
  · obtain ⟨x, hx, hxa⟩ := touch_of ha
    rcases getElem?_append_cases hx with ⟨_, hx'⟩ | ⟨_, hxu⟩
    · rcases h.knB i a (by rw [touchAt_of hx']; exact hxa) hm with h1 | h1 | ⟨h1, h2⟩
      · exact .inl (h1.app u)
      · exact .inr (.inl h1)
      · exact .inr (.inr ⟨g?_at h1, h2.imp (Q.aGrow _ _ _ _ hg) id⟩)
    · exact .inr (.inr ⟨by simp [Trace.g?, hx, hu x hxu], hs x hxu a hxa hm⟩)
  · rw [← h.dB]
    exact Deaf_other t (g := k) (g' := 0) (by omega) u hu

theorem TI.appB (Q : Parts Shun Wg Ch LA LB) (hk : 0 < k) (h : TI Shun k Wg Ch LA LB t w dA dB) (hg : Grow w w') (hu : ∀ op ∈ u, op.g = k) {dB' : Nat}
    (hs : ∀ op ∈ u, ∀ b, op.act.touch? = some b → b.loc.isMemory = true → LB w' b.loc b.write ∨ ((IsWg Wg b.loc ∨ b.loc = .obj Ch) ∧ b.kind = .atomic)) (hd : Deaf (t ++ u) k = dB') (hl : ∀ op ∈ u, op.act.low w'.heap.size) : TI Shun k Wg Ch LA LB (t ++ u) w' dA dB' := by
  refine ⟨fun said => noRace_append (h.clean said) hu fun i a ha op hop b hb hc => ?_, fun i a ha hm => ?_, fun i a ha hm => ?_, over_app h.over fun op hop => .inr (.inl (hu op hop)), ?_, hd, seen_grow h.seen hg.size hl⟩
  · have hm : b.loc.isMemory = true := hc.1 ▸ hc.2.1
    rcases h.knB i a ha hc.2.1 with hk' | ⟨hsa, _⟩ | ⟨_, hB⟩
    · exact hk'
    · exfalso
      rcases hs op hop b hb hm with h1 | ⟨h1 | h1, _⟩
      · exact (Q.bOut _ _ _ h1).2.2 (hc.1 ▸ hsa)
      · exact Q.wgS _ h1 (hc.1 ▸ hsa)
      · exact Q.chS (h1 ▸ hc.1 ▸ hsa)
    · exfalso
      obtain ⟨e, _, hw, hcase⟩ := hc
      rcases hB with hB | ⟨hB, hnp⟩
      · rcases hs op hop b hb hm with h1 | ⟨h1 | h1, _⟩
        · have := Q.apart w' b.loc a.write b.write (e ▸ Q.aGrow _ _ _ _ hg hB) h1
          rcases hw with hw | hw
          · rw [this.1] at hw; cases hw
          · rw [this.2] at hw; cases hw
        · exact (Q.aOut _ _ _ hB).1 (e ▸ h1)
        · exact (Q.aOut _ _ _ hB).2.1 (e.trans h1)
      · rcases hs op hop b hb hm with h1 | ⟨_, hat⟩
        · exact (Q.bOut _ _ _ h1).1 (e ▸ hB)
        · rw [hat] at hcase
          rcases hcase with x | x | ⟨_, _, x⟩
          · exact hnp x
          · cases x
          · cases x
  · obtain ⟨x, hx, hxa⟩ := touch_of ha
    rcases getElem?_append_cases hx with ⟨_, hx'⟩ | ⟨_, hxu⟩
    · rcases h.knA i a (by rw [touchAt_of hx']; exact hxa) hm with h1 | h1 | ⟨h1, h2⟩
      · exact .inl (h1.app u)
      · exact .inr (.inl h1)
      · exact .inr (.inr ⟨g?_at h1, h2.imp (Q.bGrow _ _ _ _ hg) id⟩)
    · exact .inr (.inr ⟨by simp [Trace.g?, hx, hu x hxu], hs x hxu a hxa hm⟩)
  · obtain ⟨x, hx, hxa⟩ := touch_of ha
    rcases getElem?_append_cases hx with ⟨_, hx'⟩ | ⟨_, hxu⟩
    · rcases h.knB i a (by rw [touchAt_of hx']; exact hxa) hm with h1 | h1 | ⟨h1, h2⟩
      · exact .inl (h1.app u)
      · exact .inr (.inl h1)
      · exact .inr (.inr ⟨g?_at h1, h2.imp (Q.aGrow _ _ _ _ hg) id⟩)
    · have := knows_own hx
      rw [hu x hxu] at this
      exact .inl this
  · rw [← h.dA]
    exact Deaf_other t (g := 0) (g' := k) (by omega) u hu

theorem TI.appMute (Q : Parts Shun Wg Ch LA LB) (h : TI Shun k Wg Ch LA LB t w dA dB) (hg : Grow w w') (hn : ∀ op ∈ u, op.act.touch? = none) (hd0 : Deaf (t ++ u) 0 = Deaf t 0) (hdk : Deaf (t ++ u) k = Deaf t k) (hl : ∀ op ∈ u, op.act.low w'.heap.size) : TI Shun k Wg Ch LA LB (t ++ u) w' dA dB := by
  have old : ∀ i a, touchAt (t ++ u) i = some a → touchAt t i = some a := fun i a ha => by
    obtain ⟨x, hx, hxa⟩ := touch_of ha
    rcases getElem?_append_cases hx with ⟨_, hx'⟩ | ⟨_, hxu⟩
    · rw [touchAt_of hx']; exact hxa
    · rw [hn x hxu] at hxa; cases hxa
  refine ⟨fun said => ?_, fun i a ha hm => ?_, fun i a ha hm => ?_, over_app h.over fun op hop => .inr (.inr (hn op hop)), hd0.trans h.dA, hdk.trans h.dB, seen_grow h.seen hg.size hl⟩
  · rintro ⟨i, j, hij, ⟨a, b, ha, hb, hc⟩, n1, n2⟩
    exact h.clean said ⟨i, j, hij, ⟨a, b, old i a ha, old j b hb, hc⟩, fun e => n1 (hb_app u e), fun e => n2 (hb_app u e)⟩
  · rcases h.knA i a (old i a ha) hm with h1 | h1 | ⟨h1, h2⟩
    · exact .inl (h1.app u)
    · exact .inr (.inl h1)
    · exact .inr (.inr ⟨g?_at h1, h2.imp (Q.bGrow _ _ _ _ hg) id⟩)
  · rcases h.knB i a (old i a ha) hm with h1 | h1 | ⟨h1, h2⟩
    · exact .inl (h1.app u)
    · exact .inr (.inl h1)
    · exact .inr (.inr ⟨g?_at h1, h2.imp (Q.aGrow _ _ _ _ hg) id⟩)

theorem TI.grow (Q : Parts Shun Wg Ch LA LB) (h : TI Shun k Wg Ch LA LB t w dA dB) (hg : Grow w w') : TI Shun k Wg Ch LA LB t w' dA dB := by
  have := h.appMute (u := #[]) Q hg (by simp) (by simp) (by simp) (by simp)
  simpa using this

end
end Go.Pair
