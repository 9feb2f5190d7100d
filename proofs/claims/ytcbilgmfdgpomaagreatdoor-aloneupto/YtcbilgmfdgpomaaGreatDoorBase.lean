import Derived.KernelRfl
import Derived.Below
import Derived.Conc.WalkWords
set_option linter.all false
abbrev aA:=@Nat.lt_of_lt_of_le
abbrev aB:=@Option.some.inj
abbrev aC:=@Nat.le_refl
abbrev aD:=@Array.getElem?_setIfInBounds_ne
abbrev aE:=@Nat.le_trans
abbrev aF:=@List.getElem?_eq_some_iff
abbrev aG:=@Array.getElem?_eq_some_iff
abbrev aH:=@List.getElem?_eq_getElem
abbrev aI:=@Option.map_some
abbrev aJ:=@congrArg
abbrev aK:=@List.length_append
abbrev aL:=@if_pos
abbrev aM:=@if_neg
abbrev aN:=@Array.getElem?_map
abbrev aO:=@Array.getElem?_eq_getElem
abbrev aQ:=@Array.getElem?_setIfInBounds_self_of_lt
abbrev aR:=@Bool.false_eq_true
abbrev aS:=@List.getElem?_map
abbrev aT:=@Option.some.injEq
abbrev aU:=@Bool.and_eq_true
abbrev aV:=@List.length_cons
abbrev aW:=@List.length_nil
abbrev aX:=@Nat.zero_add
abbrev aY:=@Option.getD_some
abbrev aZ:=@List.mem_map
abbrev bA:=@List.mem_of_getElem?
abbrev bB:=@Option.map_eq_some_iff
abbrev bC:=@List.map_cons
abbrev bD:=@List.size_toArray
abbrev bE:=@List.getElem?_set_ne
abbrev bF:=@Nat.zero_le
abbrev bG:=@List.getElem_cons_zero
abbrev bH:=@List.mem_cons
abbrev bI:=@List.getElem_cons_succ
abbrev bJ:=@List.getElem?_set_self
abbrev bK:=@List.getElem_toArray
abbrev bL:=@List.ext_getElem?
abbrev bM:=@Option.bind_eq_some_iff
abbrev bN:=@List.length_eq_zero_iff
abbrev bO:=@List.take_of_length_le
abbrev bP:=@List.mem_append
abbrev bQ:=@if_true
abbrev bR:=@if_false
abbrev bS:=@Array.getElem?_modify
abbrev bT:=@ByteArray.size_append
abbrev bU:=@Array.toList_map
abbrev bV:=@List.length_map
abbrev bW:=@List.nil_append
abbrev bX:=@Array.ext_getElem?
abbrev bY:=@Array.getElem?_setIfInBounds
abbrev bZ:=@List.append_nil
abbrev cB:=@List.append_assoc
abbrev cC:=@Array.mem_append
abbrev cD:=@Nat.add_lt_add_right
abbrev cE:=@Array.getD_eq_getD_getElem?
abbrev cF:=@Array.mem_of_getElem?
abbrev cG:=@List.map_toArray
abbrev cH:=@Classical.byContradiction
abbrev cI:=@List.mem_cons_of_mem
abbrev cJ:=@List.mem_cons_self
abbrev cK:=@List.cons_append
abbrev cM:=@List.map_nil
abbrev cN:=@Array.getElem?_toList
abbrev cO:=@List.getD_eq_getElem?_getD
abbrev cP:=@List.map_append
abbrev cQ:=@Nat.le_succ
abbrev cR:=@Array.getElem?_eq_none
abbrev cS:=@Prod.mk.injEq
abbrev cU:=@Array.all_eq_true_iff_forall_mem
abbrev cV:=@List.length_drop
abbrev cW:=@List.map_map
abbrev cX:=@List.mem_map_of_mem
abbrev cY:=@List.take_append_of_le_length
abbrev cZ:=@List.all_eq_true
abbrev dC:=@Array.map_append
abbrev dD:=@List.getElem?_take_of_lt
abbrev dE:=@Array.replicate_succ
abbrev dF:=@List.map_congr_left
abbrev dG:=@Ne.symm
abbrev dH:=@Nat.add_lt_add_left
abbrev dI:=@ByteArray.size_extract
abbrev dJ:=@Array.getElem?_append_left
abbrev dK:=@List.getElem?_append_right
abbrev dL:=@List.not_mem_nil
abbrev dM:=@List.take_succ_eq_append_getElem
abbrev dN:=@Nat.eq_zero_or_pos
abbrev dO:=@Array.replicate_zero
abbrev dP:=@List.cons.injEq
abbrev dQ:=@List.nodup_cons
abbrev dR:=@List.eq_of_mem_replicate
abbrev dS:=@Array.eq_empty_of_size_eq_zero
abbrev dT:=@Function.comp_def
abbrev dU:=@Int.toNat_natCast
abbrev dV:=@List.append_toArray
abbrev dW:=@Array.mem_singleton
abbrev dX:=@Array.toList_filter
abbrev dY:=@Option.bind_eq_bind
abbrev dZ:=@List.length_take
abbrev eC:=@List.mem_nil_iff
abbrev eD:=@Array.empty_append
abbrev eE:=@Array.getElem?_append_right
abbrev eG:=@List.getElem?_take
abbrev eH:=@List.take_append_drop
abbrev eI:=@List.length_mergeSort
abbrev eJ:=@List.push_toArray
abbrev eK:=@List.drop_eq_getElem_cons
abbrev eL:=@Nat.le_of_lt
abbrev eM:=@Option.bind_some
abbrev eN:=@List.getElem_mem
abbrev eO:=@List.idxOf_lt_length_iff
abbrev eP:=@List.length_pos_iff
abbrev eQ:=@Bool.eq_iff_iff
abbrev eR:=@Option.isSome_none
abbrev eS:=@Array.forIn_toList
abbrev eT:=@Bool.or_eq_true
abbrev eU:=@List.mem_singleton
abbrev eV:=@List.append_of_mem
abbrev eW:=@List.drop_of_length_le
abbrev eX:=@List.drop_append_of_le_length
abbrev eY:=@List.eq_nil_of_length_eq_zero
abbrev eZ:=@List.nodup_append
abbrev fC:=@List.mem_append_left
abbrev fD:=@List.getElem?_modify
abbrev fE:=@Nat.add_assoc
abbrev fF:=@List.cons.inj
abbrev fG:=@List.map_id
abbrev fH:=@Std.Legacy.Range.forIn_eq_forIn_range'
abbrev fI:=@List.mergeSort_perm
abbrev fJ:=@List.filter_eq_self
abbrev fK:=@List.foldl_cons
abbrev fL:=@List.forIn_cons
abbrev fM:=@Option.pure_def
abbrev fN:=@List.getElem?_eq_none_iff
abbrev fO:=@List.getElem?_append_left
abbrev fP:=@Array.append_empty
abbrev fQ:=@Array.foldl_toList
abbrev fR:=@List.map_set
abbrev fS:=@List.Perm.eq_of_pairwise
abbrev fT:=@List.filterMap_cons_some
abbrev fU:=@List.filter_append
abbrev fV:=@Array.mk.injEq
abbrev fW:=@Bool.false_and
abbrev fX:=@List.pairwise_mergeSort
abbrev fY:=@Option.mem_toList
abbrev fZ:=@Int.emod_eq_of_lt
abbrev gA:=@List.drop_eq_nil_of_le
abbrev gB:=@Bool.true_and
abbrev gC:=@Nat.lt_succ_self
abbrev gE:=@Array.mem_iff_getElem
abbrev gF:=@List.mem_iff_getElem
abbrev gG:=@UInt8.toNat_inj
abbrev gH:=@List.all_append
abbrev gI:=@Array.size_map
abbrev gJ:=@UInt8.toNat_lt
abbrev gL:=@List.Perm.refl
abbrev gM:=@List.nodup_nil
abbrev gO:=@Nat.mul_one
structure Hd(q:Prop):Prop where
 o:q
def I1{p:Prop}(h:p:=by first|exact C.out|exact C.out.drew|exact(Fg _).trans C.out|exact Below.drew ((Fg _).trans C.out)):p:=h
def Vw{p:Prop}(h:p:=by first|exact Below.refl _ _|exact(Below.refl _ _).drew|exact(Below.refl _ _).drew.drew):p:=h
def HK{p:Prop}(h:p:=by walk_nrm;simp only[Value.bool.injEq,decide_eq_false_iff_not];exact(by omega)):p:=h
def HM{p:Prop}(h:p:=by simpa using(aA E (aE o (eL (ltOf G))))):p:=h
def HZ{p:Prop}(h:p:=by walk_nrm;simp only[Value.bool.injEq,decide_eq_false_iff_not];exact S):p:=h
def JN{p:Prop}(h:p:=by first|exact B.out|exact B.out.below (Below.refl _ _).drew B.out.pos):p:=h
def KX{p:Prop}(h:p:=by simp only[aK,be_length,C,J,aW];omega):p:=h
def I7{p:Prop}(h:p:=by simp only[aK,be_length,y,aW];omega):p:=h
def QV{p:Prop}(h:p:=by first|exact Bf wr _|exact(Bf wr _).drew|exact(Bf wr _).drew.drew):p:=h
def Aq{p:Prop}(h:p:=by walk_nrm;simp only[Value.bool.injEq,decide_eq_true_eq];exact S):p:=h
def Am{p:Prop}(h:p:=by rw[←I];exact(Below.heap_alloc _ _ _ (ltOf Z.out)).trans Z.out):p:=h
def G0{p:Prop}(h:p:=by first|exact HW.out|exact HW.out.drew|exact HW.out.drew.drew):p:=h
def SC{p:Prop}(h:p:=by have:=cF N;simp at this;subst this;rfl):p:=h
def SE{p:Prop}(h:p:=by have:=cX (f:=Prod.fst) f;rwa[e]at this):p:=h
def H7{p:Prop}(h:p:=by first|exact o.out|exact o.out.drew|exact o.out.drew.drew):p:=h
def SG{p:Prop}(h:p:=by have:=(aF.1 h).1;simpa using this):p:=h
def SR{p:Prop}(h:p:=by rw[V];simp only[stepG.apply,Sem.runT_eq,q,bQ];rfl):p:=h
def Aam{p:Prop}(h:p:=by first|exact j.out|exact j.out.drew|exact j.out.drew.drew):p:=h
def HA{p:Prop}(h:p:=by simp only[aK,Orch.be_length,ai];omega):p:=h
def Ap{p:Prop}(h:p:=by simp only[aK,Orch.be_length];omega):p:=h
def H4{p:Prop}(h:p:=by walk_nrm;go_simp;first|done|rfl|exact⟨rfl,rfl⟩):p:=h
def Ao{p:Prop}(h:p:=by rw[←I];exact O.out.alloc O.out.size _):p:=h
def Aap{p:Prop}(h:p:=by simp[fits,Ty.l,V.n,V.s,V.l,C,J,s]):p:=h
def Kx{p:Prop}(h:p:=by rw[←I];exact heap_alloc_new _ _):p:=h
def Aaq{p:Prop}(h:p:=by rw[eQ];simp;omega):p:=h
def SB{p:Prop}(h:p:=by revert i;cases tb <;> exact id):p:=h
def HQ{p:Prop}(h:p:=by rw[aK];omega):p:=h
def Ai{p:Prop}(h:p:=by rw[dZ];omega):p:=h
def An{p:Prop}(h:p:=by simp[Eo,Orch.V.n,Orch.V.s]):p:=h
def HH{p:Prop}(h:p:=by have:=O.out.size;simp;omega):p:=h
def Ab7{p:Prop}(h:p:=by rwa[cN]):p:=h
def Ady{p:Prop}(h:p:=by have:=C.out.size;simp;omega):p:=h
def T1{p:Prop}(h:p:=by unfold I5;walk_nrm;try rfl):p:=h
def HI{p:Prop}(h:p:=by rw[←c];exact(M 1 _ rfl).1):p:=h
def Af5{p:Prop}(h:p:=by rw[E];exact aC _):p:=h
def Af8{p:Prop}(h:p:=by rw[Orch.be_length];omega):p:=h
def Aga{p:Prop}(h:p:=by simp only[maxLen];omega):p:=h
def Al{p:Prop}(h:p:=by simp[Orch.be_length]):p:=h
def H8{p:Prop}(h:p:=by unfold maxLen;omega):p:=h
def G4{p:Prop}(h:p:=by simpa[Jy] using O):p:=h
def Agb{p:Prop}(h:p:=by simp[Act.eval,FJ]):p:=h
def Agc{p:Prop}(h:p:=by simp[Act.eval,Ga]):p:=h
def Ag8{p:Prop}(h:p:=by intro f z;cases z):p:=h
def D2{p:Prop}(h:p:=by walk_nrm;try rfl):p:=h
def Af4{p:Prop}(h:p:=by show ¬mk<0;omega):p:=h
def Aaw{p:Prop}(h:p:=by unfold Ph;omega):p:=h
def Aan{p:Prop}(h:p:=by simpa using h):p:=h
def Aao{p:Prop}(h:p:=by simpa using Z):p:=h
def Aav{p:Prop}(h:p:=by simpa using L):p:=h
def M2{p:Prop}(h:p:=by simp[goInt]):p:=h
def Aiv{p:Prop}(h:p:=by cases e;rfl):p:=h
def Ab{p:Prop}(h:p:=by kernel_rfl):p:=h
def Ah{p:Prop}(h:p:=by simp;omega):p:=h
def HV{p:Prop}(h:p:=by assumption):p:=h
def Aa1{p:Prop}(h:p:=by rw[h];rfl):p:=h
def RV{p:Prop}(h:p:=by simp[Hm]):p:=h
def Aix{p:Prop}(h:p:=by simp at h):p:=h
def Af{p:Prop}(h:p:=by walk_nrm):p:=h
def HL{p:Prop}(h:p:=by cases e):p:=h
def Af6{p:Prop}(h:p:=by cases b):p:=h
def Aiu{p:Prop}(h:p:=by trivial):p:=h
def Ae{p:Prop}(h:p:=by decide):p:=h
def Aa{p:Prop}(h:p:=by omega):p:=h
def Aj{p:Prop}(h:p:=by grind):p:=h
def Ad{p:Prop}(h:p:=by simp):p:=h
def Ac{p:Prop}(h:p:=by rfl):p:=h
def Aiy{p:Prop}(h:p:=by exact λM=>by first|rfl|(simp only[He,rev,Act.eval,rn,bD,aV,aW,Nat.reduceAdd,bK,bI,bG,List.range,List.range.loop,aX];go_simp;done)|(simp only[He,rev,Act.eval,rn,bD,aV,aW,Nat.reduceAdd,bK,bI,bG,List.range,List.range.loop,aX];go_simp;rfl)):p:=h
def Ai0{p:Prop}(h:p:=by exact λo I O G=>by obtain⟨_,_,_,_,_,_,rfl⟩:=Gx O;first|exact Rf.stuck|exact Rf.stuckBind):p:=h
def Ai1{p:Prop}(h:p:=by exact λl T=>by obtain⟨k,N,rfl⟩:=Conc.mem_ofEvents T;exact touch_mute (L k N)):p:=h
def Ajp{p:Prop}(h:p:=by exact λJ E=>GR h m L a p d n Q b y z (k.trans (E.mono k.size)) x (F9 Z)):p:=h
def Aju{p:Prop}(h:p:=by exact λn m cs w _=>by rw[Be (Co L)];simp[stepG.exec,I,G,L,Bj,Df,Jx]):p:=h
def Ajy{p:Prop}(h:p:=by exact λJ E=>GS h m L a p d n Q b y z (k.trans (E.mono k.size)) (Hy Z)):p:=h
def Ak3{p:Prop}(h:p:=by exact λg=>by walk_nrm;intro m K;simp[go_sem]at K):p:=h
def Amj{p:Prop}(h:p:=by exact λd=>by walk_nrm;intro e N;simp[go_sem]at N):p:=h
def Amq{p:Prop}(h:p:=by exact λe=>by have:=aB e;omega):p:=h
def Amr{p:Prop}(h:p:=by exact λj l=>by cases l;exact aC _):p:=h
def Ams{p:Prop}(h:p:=by exact λe=>by go_simp;first|done|rfl):p:=h
def Amt{p:Prop}(h:p:=by exact λw=>by go_simp;first|done|rfl):p:=h
def Amw{p:Prop}(h:p:=by exact λf=>by injection f;omega):p:=h
def Amy{p:Prop}(h:p:=by exact λ_ _ _ h=>by cases h):p:=h
def Am1{p:Prop}(h:p:=by exact λ_ _ _ j=>by cases j):p:=h
def Am5{p:Prop}(h:p:=by exact λZ=>D3 W V.1 Z.symm):p:=h
def Am6{p:Prop}(h:p:=by exact λ_ _ o Z=>Cp Z o):p:=h
def Am7{p:Prop}(h:p:=by exact λ_ _ d Z=>Cp Z d):p:=h
def Am8{p:Prop}(h:p:=by exact λg=>by cases g):p:=h
def Ang{p:Prop}(h:p:=by exact λop f=>B9 f):p:=h
abbrev gQ:=List ByteArray
abbrev gR:=List (List UInt8)
abbrev gS:=ByteArray->Bool
abbrev gT:=List UInt8
abbrev gU:=ByteArray
abbrev gV:=Nat->Prop
abbrev gW:=Go.Loc->Prop
abbrev gX:=Go.World->Prop
abbrev gY:=Array Go.Value
abbrev gZ:=List Go.Value
abbrev hQ:=Nat->Go.Value
abbrev hU:=Option Go.Addr
abbrev hY:=Option Nat
abbrev hZ:=List Nat
abbrev iA:=Go.Value->Go.World->Prop
abbrev iB(b:Nat):Go.Value:=.pointer (some ⟨b,0,none⟩)
abbrev iC(b:Nat):Go.Addr:=⟨b,0,none⟩
abbrev iD(b k:Nat):Go.Addr:=⟨b,k,none⟩
abbrev iE(x:Int):Go.Value:=.int .i64 x
abbrev iF(w v):=Go.RowKit.Below w.heap.size w v
abbrev iG:ByteArray:=⟨#[]⟩
abbrev iH{α:Type}(_:α):Prop:=False
def iI{α}{a:α}:a=a:=rfl
def iJ{p:Prop}(h:p:=by walk_nrm):p:=h
