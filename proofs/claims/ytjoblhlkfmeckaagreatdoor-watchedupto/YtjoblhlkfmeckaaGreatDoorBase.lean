import Derived.KernelRfl
set_option linter.unusedVariables false
set_option linter.unusedSimpArgs false
abbrev aA:=@Nat.le_refl
abbrev aB:=@Nat.lt_of_lt_of_le
abbrev aC:=@Option.some.inj
abbrev aD:=@Array.getElem?_setIfInBounds_ne
abbrev aE:=@Nat.le_trans
abbrev aF:=@Array.getElem?_eq_some_iff
abbrev aG:=@congrArg
abbrev aH:=@List.length_append
abbrev aI:=@List.length_nil
abbrev aJ:=@Option.map_eq_some_iff
abbrev aK:=@List.length_cons
abbrev aL:=@Option.some.injEq
abbrev aM:=@Nat.zero_add
abbrev aN:=@Option.getD_some
abbrev aO:=@if_neg
abbrev aP:=@List.nil_append
abbrev aQ:=@if_pos
abbrev aR:=@List.getElem?_eq_getElem
abbrev aS:=@Array.getElem?_setIfInBounds_self_of_lt
abbrev aT:=@ByteArray.size_append
abbrev aU:=@List.size_toArray
abbrev aV:=@Bool.false_eq_true
abbrev aW:=@List.getElem?_eq_some_iff
abbrev aX:=@List.getElem_cons_succ
abbrev aY:=@List.getElem_cons_zero
abbrev aZ:=@Array.getElem?_eq_getElem
abbrev bA:=@Option.map_some
abbrev bB:=@List.getElem_toArray
abbrev bC:=@if_true
abbrev bD:=@Bool.and_eq_true
abbrev bE:=@List.mem_map
abbrev bF:=@Array.getElem?_setIfInBounds
abbrev bG:=@Classical.byContradiction
abbrev bH:=@Prod.mk.injEq
abbrev bI:=@List.mem_cons
abbrev bJ:=@Array.getElem?_modify
abbrev bK:=@List.cons_append
abbrev bL:=@List.length_take
abbrev bM:=@List.append_assoc
abbrev bN:=@List.length_map
abbrev bO:=@List.take_of_length_le
abbrev bP:=@List.length_eq_zero_iff
abbrev bQ:=@if_false
abbrev bR:=@Nat.add_lt_add_right
abbrev bS:=@Array.getElem?_map
abbrev bT:=@Array.replicate_succ
abbrev bU:=@List.append_nil
abbrev bV:=@List.cons.injEq
abbrev bW:=@Ne.symm
abbrev bX:=@List.getElem?_map
abbrev bY:=@List.map_cons
abbrev bZ:=@Array.replicate_zero
abbrev cA:=@Array.getElem?_eq_none
abbrev cB:=@List.append_toArray
abbrev cC:=@Nat.zero_le
abbrev cD:=@List.mem_of_getElem?
abbrev cF:=@List.mem_nil_iff
abbrev cG:=@List.push_toArray
abbrev cH:=@List.mem_append
abbrev cI:=@List.map_append
abbrev cJ:=@Array.append_empty
abbrev cK:=@List.getElem?_take_of_lt
abbrev cL:=@Array.getElem?_append_right
abbrev cM:=@Array.getD_eq_getD_getElem?
abbrev cN:=@Nat.add_lt_add_left
abbrev cO:=@Nat.lt_or_ge
abbrev cP:=@Array.getElem?_push_lt
abbrev cQ:=@ByteArray.size_extract
abbrev cR:=@List.getD_eq_getElem?_getD
abbrev cT:=@List.length_drop
abbrev cW:=@Option.bind_some
abbrev cX:=@Nat.eq_zero_or_pos
abbrev cY:=@Array.ext_getElem?
abbrev cZ:=@List.take_append_drop
abbrev dC:=@Array.getElem?_toList
abbrev dD:=@Nat.le_succ
abbrev dE:=@List.take_append_of_le_length
abbrev dF:=@List.getElem_mem
abbrev dG:=@List.map_toArray
abbrev dH:=@List.mem_singleton
abbrev dI:=@List.getElem?_take
abbrev dJ:=@Array.mem_of_getElem?
abbrev dK:=@Array.getElem?_append_left
abbrev dL:=@Array.mk.injEq
abbrev dM:=@Array.mem_append
abbrev dN:=@Nat.le_of_lt
abbrev dO:=@Array.all_eq_true_iff_forall_mem
abbrev dP:=@List.append_cancel_right
abbrev dQ:=@List.take_succ_eq_append_getElem
abbrev dR:=@List.map_nil
abbrev dS:=@Bool.eq_iff_iff
abbrev dT:=@Int.emod_lt_of_pos
abbrev dU:=@List.drop_of_length_le
abbrev dV:=@List.drop_append_of_le_length
abbrev dW:=@Int.emod_eq_of_lt
abbrev dX:=@Nat.le_of_eq
abbrev dY:=@ByteArray.data_append
abbrev dZ:=@List.mem_append_left
abbrev eA:=@List.getElem_map
abbrev eB:=@List.getElem?_append_right
abbrev eC:=@Array.getElem?_push
abbrev eD:=@Array.toList_append
abbrev eE:=@List.getElem?_append_left
abbrev eF:=@Int.emod_nonneg
abbrev eG:=@List.drop_eq_getElem_cons
abbrev eH:=@Nat.zero_mul
abbrev eI:=@List.mem_cons_self
abbrev eJ:=@Bool.false_and
abbrev eK:=@Option.bind_eq_some_iff
abbrev eL:=@Prod.mk.inj
abbrev eM:=@Nat.add_assoc
abbrev eN:=@List.all_eq_true
abbrev eO:=@List.length_singleton
abbrev eP:=@List.mem_append_right
abbrev eQ:=@List.length_mergeSort
abbrev eR:=@List.foldl_cons
abbrev eS:=@Bool.or_eq_true
abbrev eU:=@Int.natCast_pow
abbrev eV:=@UInt8.toNat_inj
abbrev eW:=@List.mem_cons_of_mem
abbrev eX:=@List.all_append
abbrev eY:=@UInt8.toNat_lt
abbrev eZ:=@Nat.mul_one
structure Hd(q:Prop):Prop where
 o:q
theorem Aa{p:Prop}(h:p:=by kernel_rfl):p:=h
theorem Ab{p:Prop}(h:p:=by omega):p:=h
theorem Ac{p:Prop}(h:p:=by rfl):p:=h
theorem Ad{p:Prop}(h:p:=by decide):p:=h
theorem Ae{p:Prop}(h:p:=by simp):p:=h
theorem Af{p:Prop}(h:p:=by assumption):p:=h
theorem Ag{p:Prop}(h:p:=by simp;omega):p:=h
theorem Ah{p:Prop}(h:p:=by cases h;rfl):p:=h
theorem Ai{p:Prop}(h:p:=by simpa using h):p:=h
theorem Aj{p:Prop}(h:p:=by trivial):p:=h

