import Derived.Below
import Derived.Conc.WalkWords
set_option linter.all false
variable{p:Prop}
namespace Go
abbrev aA:=@Nat.le_refl
abbrev aB:=@Nat.lt_of_lt_of_le
abbrev aC:=@Option.some.inj
abbrev aD:=@Nat.le_trans
abbrev aE:=@Array.getElem?_setIfInBounds_ne
abbrev aF:=@List.getElem?_eq_some_iff
abbrev aG:=@List.getElem?_eq_getElem
abbrev aH:=@List.length_append
abbrev aI:=@Option.map_some
abbrev aJ:=@Array.getElem?_eq_some_iff
abbrev aK:=@congrArg
abbrev aL:=@if_pos
abbrev aM:=@Array.getElem?_map
abbrev aN:=@Array.getElem?_eq_getElem
abbrev aO:=@if_neg
abbrev aQ:=@Bool.and_eq_true
abbrev aR:=@List.length_nil
abbrev aS:=@List.mem_of_getElem?
abbrev aT:=@Array.getElem?_setIfInBounds_self_of_lt
abbrev aU:=@Option.some.injEq
abbrev aV:=@List.getElem?_map
abbrev aW:=@List.length_cons
abbrev aX:=@Bool.false_eq_true
abbrev aY:=@Nat.zero_add
abbrev aZ:=@List.mem_map
abbrev bA:=@Option.map_eq_some_iff
abbrev bB:=@Nat.zero_le
abbrev bC:=@List.mem_append
abbrev bD:=@List.size_toArray
abbrev bE:=@List.take_of_length_le
abbrev bF:=@List.map_cons
abbrev bG:=@List.getElem_cons_zero
abbrev bH:=@List.getElem_cons_succ
abbrev bI:=@List.getElem?_set_ne
abbrev bJ:=@List.length_eq_zero_iff
abbrev bK:=@List.getElem_toArray
abbrev bL:=@List.append_nil
abbrev bM:=@List.mem_cons
abbrev bN:=@Option.bind_eq_some_iff
abbrev bO:=@List.mem_iff_getElem
abbrev bP:=@List.getElem_mem
abbrev bQ:=@List.take_succ_eq_append_getElem
abbrev bR:=@List.length_map
abbrev bS:=@Array.toList_map
abbrev bT:=@Option.getD_some
abbrev bU:=@List.nil_append
abbrev bV:=@if_true
abbrev bW:=@Array.getElem?_modify
abbrev bX:=@ByteArray.size_append
abbrev bY:=@List.append_assoc
abbrev bZ:=@Array.ext_getElem?
abbrev cB:=@if_false
abbrev cC:=@List.getElem?_set_self
abbrev cD:=@List.map_toArray
abbrev cE:=@List.ext_getElem?
abbrev cF:=@Array.getElem?_setIfInBounds
abbrev cG:=@List.mem_cons_self
abbrev cH:=@Array.mem_append
abbrev cI:=@Nat.add_lt_add_right
abbrev cJ:=@List.mem_cons_of_mem
abbrev cK:=@ByteArray.size_extract
abbrev cL:=@Array.getD_eq_getD_getElem?
abbrev cM:=@List.map_nil
abbrev cN:=@Array.mem_of_getElem?
abbrev cO:=@Array.getElem?_toList
abbrev cP:=@List.map_append
abbrev cQ:=@List.map_congr_left
abbrev cR:=@List.take_append_of_le_length
abbrev cS:=@List.cons_append
abbrev cU:=@List.map_map
abbrev cV:=@List.all_eq_true
abbrev cW:=@Array.getElem?_eq_none
abbrev cX:=@Classical.byContradiction
abbrev cY:=@Function.comp_def
abbrev cZ:=@Bool.or_eq_true
abbrev dC:=@Array.all_eq_true_iff_forall_mem
abbrev dD:=@List.length_drop
abbrev dE:=@Prod.mk.injEq
abbrev dF:=@List.getD_eq_getElem?_getD
abbrev dG:=@List.mem_map_of_mem
abbrev dH:=@Ne.symm
abbrev dI:=@List.length_take
abbrev dJ:=@List.mem_singleton
abbrev dK:=@List.getElem?_take_of_lt
abbrev dL:=@Array.replicate_succ
abbrev dM:=@Nat.add_lt_add_left
abbrev dN:=@Array.getElem?_append_left
abbrev dO:=@List.getElem?_append_right
abbrev dP:=@Option.bind_some
abbrev dQ:=@Array.map_append
abbrev dR:=@List.not_mem_nil
abbrev dS:=@List.mem_nil_iff
abbrev dT:=@List.length_filter_le
abbrev dU:=@List.drop_eq_getElem_cons
abbrev dV:=@Nat.le_succ
abbrev dW:=@Array.replicate_zero
abbrev dX:=@List.cons.injEq
abbrev dY:=@Array.eq_empty_of_size_eq_zero
abbrev dZ:=@List.eq_of_mem_replicate
abbrev eC:=@List.eq_nil_of_length_eq_zero
abbrev eD:=@List.append_toArray
abbrev eE:=@Array.mem_singleton
abbrev eG:=@Option.bind_eq_bind
abbrev eH:=@List.drop_of_length_le
abbrev eI:=@Nat.le_of_lt
abbrev eJ:=@Nat.eq_zero_or_pos
abbrev eK:=@Array.empty_append
abbrev eL:=@Array.getElem?_append_right
abbrev eM:=@List.getElem?_take
abbrev eN:=@List.take_append_drop
abbrev eO:=@List.length_mergeSort
abbrev eP:=@List.mem_iff_getElem?
abbrev eQ:=@List.push_toArray
abbrev eR:=@Int.toNat_natCast
abbrev eS:=@List.getElem?_append_left
abbrev eT:=@List.pairwise_iff_getElem
abbrev eU:=@List.idxOf_lt_length_iff
abbrev eV:=@List.length_pos_iff
abbrev eW:=@Nat.add_assoc
abbrev eX:=@Option.isSome_none
abbrev eY:=@Array.forIn_toList
abbrev eZ:=@List.nodup_cons
abbrev fC:=@List.length_pos_of_mem
abbrev fD:=@ByteArray.data_extract
abbrev fE:=@List.drop_append_of_le_length
abbrev fF:=@Nat.lt_trichotomy
abbrev fG:=@Int.emod_eq_of_lt
abbrev fH:=@List.getElem?_inj
abbrev fI:=@Array.toList_inj
abbrev fJ:=@List.mem_append_left
abbrev fK:=@List.mem_of_mem_take
abbrev fL:=@Array.toList_extract
abbrev fM:=@List.map_id
abbrev fN:=@Nat.mul_one
abbrev fO:=@Std.Legacy.Range.forIn_eq_forIn_range'
abbrev fP:=@Array.toList_filter
abbrev fQ:=@List.mergeSort_perm
abbrev fR:=@List.foldl_cons
abbrev fS:=@List.forIn_cons
abbrev fT:=@Option.pure_def
abbrev fU:=@List.getElem?_eq_none_iff
abbrev fV:=@List.mem_of_find?_eq_some
abbrev fW:=@List.extract_eq_take_drop
abbrev fX:=@Array.foldl_toList
abbrev fY:=@Array.append_empty
abbrev fZ:=@List.Perm.eq_of_pairwise
abbrev gA:=@List.filterMap_cons_some
abbrev gB:=@List.append_of_mem
abbrev gC:=@UInt8.toNat_lt
abbrev gE:=@List.pairwise_mergeSort
abbrev gF:=@Option.mem_toList
abbrev gG:=@List.flatMap_cons
abbrev gI:=@List.getElem_take
abbrev gJ:=@List.nodup_append
abbrev gL:=@List.pairwise_map
abbrev gM:=@List.drop_eq_nil_of_le
abbrev gO:=@Int.le_refl
abbrev gQ:=@Bool.true_and
abbrev gR:=@Nat.lt_succ_self
abbrev gS:=@List.length_singleton
abbrev gT:=@Nat.lt_or_ge
abbrev gU:=@Bool.eq_iff_iff
abbrev gV:=@UInt8.toNat_inj
abbrev gW:=@List.map_set
abbrev gX:=@List.all_append
abbrev gY:=@Nat.add_zero
abbrev gZ:=@List.getElem?_modify
abbrev hQ:=@Array.size_map
abbrev hU:=@Array.mk.injEq
abbrev hY:=@Bool.false_and
abbrev hZ:=@List.Perm.refl
abbrev iA:=@List.nodup_nil
structure Hd(q:Prop):Prop where
 o:q
def Bd(h:p:=by first|exact Below.refl _ _|exact(Below.refl _ _).drew|exact(Below.refl _ _).drew.drew):p:=h
def W9(h:p:=by walk_nrm;simp only[Value.bool.injEq,decide_eq_false_iff_not];exact(by omega)):p:=h
def X7(h:p:=by simpa using(aB E (aD o (eI (ltOf G))))):p:=h
def BB(h:p:=by simp only[aH,Orch.be_length,C,J,T,aR];omega):p:=h
def GG(h:p:=by walk_nrm;simp only[Value.bool.injEq,decide_eq_false_iff_not];exact S):p:=h
def HA(h:p:=by rcases E with rfl|rfl <;> first|exact j.out.row|exact j.out.row.drew):p:=h
def HK(h:p:=by simp only[aH,be_length,C,J,aR];omega):p:=h
def N6(h:p:=by simp only[aH,be_length,y,aR];omega):p:=h
def F2(h:p:=by walk_nrm;simp only[Value.bool.injEq,decide_eq_true_eq];exact S):p:=h
def HQ(h:p:=by first|exact Below.refl _ _|exact Yy _|exact ak.out|exact bh.out):p:=h
def Ap(h:p:=by rw[←I];exact(Below.heap_alloc _ _ _ (ltOf Z.out)).trans Z.out):p:=h
def H7(h:p:=by first|exact HW.out|exact HW.out.drew|exact HW.out.drew.drew):p:=h
def RV(h:p:=by have:=cN N;simp at this;subst this;rfl):p:=h
def SB(h:p:=by have:=dG (f:=Prod.fst) f;rwa[e]at this):p:=h
def SC(h:p:=by first|exact G.out|exact G.out.drew|exact G.out.drew.drew):p:=h
def SE(h:p:=by have:=(aF.1 h).1;simpa using this):p:=h
def SG(h:p:=by rw[V];simp only[stepG.apply,Sem.runT_eq,q,bV];rfl):p:=h
def SR(h:p:=by first|exact j.out|exact j.out.drew|exact j.out.drew.drew):p:=h
def Vw(h:p:=by simp only[aH,Orch.be_length,ai];omega):p:=h
def An(h:p:=by intro Q r;simp at r;rcases r with rfl|rfl|rfl <;> rfl):p:=h
def Di(h:p:=by simp only[aH,Orch.be_length];omega):p:=h
def Adb(h:p:=by rw[T];exact growslice_fits (by omega) (by omega)):p:=h
def Adc(h:p:=by have ⟨x,Z⟩:=G.root;exact fC Z):p:=h
def Ade(h:p:=by obtain⟨es,cl,D⟩:=Bq.obj g.hw;exact E D (by simp)):p:=h
def H8(h:p:=by walk_nrm;go_simp;first|done|rfl|exact⟨rfl,rfl⟩):p:=h
def Adg(h:p:=by have:=aj.out;have:=ao.out;unfold maxLen;omega):p:=h
def S9(h:p:=by show _<b.1.size;have:=D.grown.size;omega):p:=h
def NB(h:p:=by have:=g.out.size;have:=U.out.size;omega):p:=h
def Aq(h:p:=by rw[←I];exact O.out.alloc O.out.size _):p:=h
def BQ(h:p:=by first|exact .inl rfl|exact .inr rfl):p:=h
def HH(h:p:=by first|exact C.out|exact C.out.drew):p:=h
def Ac5(h:p:=by simp[fits,Ty.l,V.n,V.s,V.l,C,J,s]):p:=h
def O1(h:p:=by rw[←I];exact heap_alloc_new _ _):p:=h
def Jn(h:p:=by walk_nrm;go_simp;first|done|rfl):p:=h
def KX(h:p:=by revert i;cases tb <;> exact id):p:=h
def Adq(h:p:=by have:=C.sz;have:=r.size;omega):p:=h
def Aet(h:p:=by rw[aH];omega):p:=h
def Al(h:p:=by rw[dI];omega):p:=h
def G0(h:p:=by simp[Eu,Orch.V.n,Orch.V.s]):p:=h
def V5(h:p:=by have:=O.out.size;simp;omega):p:=h
def Abk(h:p:=by have:=C.sz;have:=C.g8;omega):p:=h
def Age(h:p:=by have:=ltOf h.out;exact this):p:=h
def Ah5(h:p:=by rwa[cO]):p:=h
def Aik(h:p:=by have:=C.out.size;simp;omega):p:=h
def JN(h:p:=by rw[Orch.be_length];omega):p:=h
def Aio(h:p:=by simp only[maxLen];omega):p:=h
def Ao(h:p:=by simp[Orch.be_length]):p:=h
def Am(h:p:=by unfold maxLen;omega):p:=h
def Wb(h:p:=by simpa[Np] using O):p:=h
def Aip(h:p:=by simp[Act.eval,NN]):p:=h
def Aiq(h:p:=by simp[Act.eval,Ic]):p:=h
def Ais(h:p:=by intro f O;cases O):p:=h
def Ah(h:p:=by walk_nrm;try rfl):p:=h
def Ain(h:p:=by show ¬mk<0;omega):p:=h
def Kx(h:p:=by simp[Act.eval]):p:=h
def Adl(h:p:=by rw[R.4];omega):p:=h
def Aiv(h:p:=by unfold Ov;omega):p:=h
def HM(h:p:=by simpa using h):p:=h
def QV(h:p:=by simpa using Z):p:=h
def Adf(h:p:=by simpa using V):p:=h
def O5(h:p:=by simp[goInt]):p:=h
def Ada(h:p:=by cases e;rfl):p:=h
def Ab(h:p:=by kernel_rfl):p:=h
def Ai(h:p:=by simp;omega):p:=h
def X6(h:p:=by assumption):p:=h
def Adm(h:p:=by rw[h];rfl):p:=h
def HV(h:p:=by simp[Ij]):p:=h
def Af(h:p:=by walk_nrm):p:=h
def M2(h:p:=by cases e):p:=h
def Air(h:p:=by trivial):p:=h
def Ad(h:p:=by decide):p:=h
def Aa(h:p:=by omega):p:=h
def Aj(h:p:=by grind):p:=h
def Ae(h:p:=by simp):p:=h
def Ac(h:p:=by rfl):p:=h
def Aiy(h:p:=by exact λS=>by first|rfl|(simp only[Ia,rev,Act.eval,rn,bD,aW,aR,Nat.reduceAdd,bK,bH,bG,List.range,List.range.loop,aY];go_simp;done)|(simp only[Ia,rev,Act.eval,rn,bD,aW,aR,Nat.reduceAdd,bK,bH,bG,List.range,List.range.loop,aY];go_simp;rfl)):p:=h
def Aiz(h:p:=by exact λo I O G=>by obtain⟨_,_,_,_,_,_,rfl⟩:=He O;first|exact Rf.stuck|exact Rf.stuckBind):p:=h
def Ai0(h:p:=by exact λl T=>by obtain⟨k,N,rfl⟩:=Conc.mem_ofEvents T;exact touch_mute (L k N)):p:=h
def Alm(h:p:=by exact λJ E=>LI a m L q p d n Q b y z (k.trans (E.mono k.size)) x (Gt Z)):p:=h
def Aln(h:p:=by exact λn m cs w _=>by rw[Bl (Cy L)];simp[stepG.exec,I,G,L,Bp,Dh,Kh]):p:=h
def Alo(h:p:=by exact λJ E=>LJ a m L q p d n Q b y z (k.trans (E.mono k.size)) (Ix Z)):p:=h
def Alq(h:p:=by exact λa ha=>by simp at ha;subst ha;show 0+2000≤9000000000;decide):p:=h
def Als(h:p:=by exact λH=>by walk_nrm;intro g ah;simp[go_sem]at ah):p:=h
def Alu(h:p:=by exact λw=>by first|rfl|(go_simp;done)|(go_simp;rfl)):p:=h
def Al0(h:p:=by exact λq=>by first|rfl|(go_simp;done)|(go_simp;rfl)):p:=h
def Amf(h:p:=by exact λd=>by walk_nrm;intro e a;simp[go_sem]at a):p:=h
def Amh(h:p:=by exact λf=>by have:=aC f;omega):p:=h
def Ami(h:p:=by exact λj=>by go_simp;first|done|rfl):p:=h
def Amo(h:p:=by exact λp=>by have:=l _ p;omega):p:=h
def Amt(h:p:=by exact λg=>by injection g;omega):p:=h
def Ape(h:p:=by exact λ_ _ _ h=>by cases h):p:=h
def Api(h:p:=by exact λ_ _ h Z=>Bu Z h):p:=h
def Apj(h:p:=by exact λ_ _ d Z=>Bu Z d):p:=h
def Apn(h:p:=by exact λg=>by cases g):p:=h
def Apo(h:p:=by exact λop f=>Cq f):p:=h
abbrev iB:=List ByteArray
abbrev iC:=List (List UInt8)
abbrev iD:=ByteArray->Bool
abbrev iE:=List UInt8
abbrev iF:=ByteArray
abbrev iG:=Nat->Prop
abbrev iH:=Go.Loc->Prop
abbrev iI:=Go.World->Prop
abbrev iJ:=Array Go.Value
abbrev iK:=List Go.Value
abbrev iL:=Nat->Go.Value
abbrev iM:=Option Go.Addr
abbrev iN:=Option Nat
abbrev iO:=List Nat
abbrev iP:=Go.Value->Go.World->Prop
abbrev HZ(b:Nat):Go.Value:=.pointer (some ⟨b,0,none⟩)
abbrev iQ(b:Nat):Go.Addr:=⟨b,0,none⟩
abbrev iR(b k:Nat):Go.Addr:=⟨b,k,none⟩
abbrev iS(x:Int):Go.Value:=.int .i64 x
abbrev iT(w v):=Go.RowKit.Below w.heap.size w v
abbrev iU:ByteArray:=⟨#[]⟩
abbrev iV{α:Type}(_:α):Prop:=False
def iW{α}{a:α}:a=a:=rfl
def iX(h:p:=by walk_nrm):p:=h
end Go
