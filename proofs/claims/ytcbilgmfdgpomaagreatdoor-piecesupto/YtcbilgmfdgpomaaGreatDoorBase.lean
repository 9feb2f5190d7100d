import Derived.Below
import Derived.Conc.WalkWords
set_option linter.all false
abbrev aA:=@Option.some.inj
abbrev aB:=@Nat.le_refl
abbrev aC:=@Nat.lt_of_lt_of_le
abbrev aD:=@List.getElem?_eq_some_iff
abbrev aE:=@Array.getElem?_setIfInBounds_ne
abbrev aF:=@Nat.le_trans
abbrev aG:=@List.getElem?_eq_getElem
abbrev aH:=@Array.getElem?_eq_some_iff
abbrev aI:=@Option.map_some
abbrev aJ:=@if_pos
abbrev aK:=@congrArg
abbrev aL:=@if_neg
abbrev aM:=@List.length_append
abbrev aN:=@Array.getElem?_map
abbrev aO:=@Array.getElem?_eq_getElem
abbrev aQ:=@Array.getElem?_setIfInBounds_self_of_lt
abbrev aR:=@Bool.false_eq_true
abbrev aS:=@Bool.and_eq_true
abbrev aT:=@List.getElem?_map
abbrev aU:=@List.length_cons
abbrev aV:=@List.mem_of_getElem?
abbrev aW:=@Option.some.injEq
abbrev aX:=@List.length_nil
abbrev aY:=@Nat.zero_add
abbrev aZ:=@List.mem_map
abbrev bA:=@List.map_cons
abbrev bB:=@Option.map_eq_some_iff
abbrev bC:=@List.size_toArray
abbrev bD:=@List.getElem?_set_ne
abbrev bE:=@Nat.zero_le
abbrev bF:=@List.getElem_cons_zero
abbrev bG:=@List.mem_cons
abbrev bH:=@List.getElem_cons_succ
abbrev bI:=@List.getElem?_set_self
abbrev bJ:=@Option.getD_some
abbrev bK:=@List.ext_getElem?
abbrev bL:=@Option.bind_eq_some_iff
abbrev bM:=@List.getElem_toArray
abbrev bN:=@List.take_of_length_le
abbrev bO:=@List.length_eq_zero_iff
abbrev bP:=@if_true
abbrev bQ:=@if_false
abbrev bR:=@List.nil_append
abbrev bS:=@Array.getElem?_modify
abbrev bT:=@Array.toList_map
abbrev bU:=@List.length_map
abbrev bV:=@Array.ext_getElem?
abbrev bW:=@List.append_nil
abbrev bX:=@List.mem_append
abbrev bY:=@List.append_assoc
abbrev bZ:=@Array.getElem?_setIfInBounds
abbrev cB:=@ByteArray.size_append
abbrev cD:=@Array.mem_append
abbrev cE:=@Nat.add_lt_add_right
abbrev cF:=@List.mem_cons_of_mem
abbrev cG:=@Array.getD_eq_getD_getElem?
abbrev cH:=@List.mem_cons_self
abbrev cI:=@Array.mem_of_getElem?
abbrev cJ:=@List.cons_append
abbrev cK:=@List.map_toArray
abbrev cL:=@Classical.byContradiction
abbrev cM:=@ByteArray.size_extract
abbrev cN:=@Array.getElem?_toList
abbrev cO:=@List.map_nil
abbrev cP:=@List.map_append
abbrev cQ:=@Nat.le_succ
abbrev cR:=@List.all_eq_true
abbrev cS:=@Array.getElem?_eq_none
abbrev cU:=@List.length_drop
abbrev cV:=@List.take_append_of_le_length
abbrev cW:=@Prod.mk.injEq
abbrev cX:=@Array.all_eq_true_iff_forall_mem
abbrev cY:=@List.map_map
abbrev cZ:=@List.getD_eq_getElem?_getD
abbrev dC:=@List.mem_map_of_mem
abbrev dD:=@Array.map_append
abbrev dE:=@List.getElem?_take_of_lt
abbrev dF:=@Array.replicate_succ
abbrev dG:=@List.cons.injEq
abbrev dH:=@List.map_congr_left
abbrev dI:=@Nat.add_lt_add_left
abbrev dJ:=@Array.getElem?_append_left
abbrev dK:=@List.getElem?_append_right
abbrev dL:=@List.not_mem_nil
abbrev dM:=@List.take_succ_eq_append_getElem
abbrev dN:=@Ne.symm
abbrev dO:=@List.take_append_drop
abbrev dP:=@List.mem_iff_getElem?
abbrev dQ:=@Array.replicate_zero
abbrev dR:=@Bool.or_eq_true
abbrev dS:=@List.nodup_cons
abbrev dT:=@List.eq_of_mem_replicate
abbrev dU:=@Array.eq_empty_of_size_eq_zero
abbrev dV:=@List.idxOf_lt_length_iff
abbrev dW:=@Function.comp_def
abbrev dX:=@Int.toNat_natCast
abbrev dY:=@List.drop_append_of_le_length
abbrev dZ:=@List.append_toArray
abbrev eC:=@Array.mem_singleton
abbrev eD:=@Array.toList_filter
abbrev eE:=@Option.bind_eq_bind
abbrev eG:=@List.length_take
abbrev eH:=@List.mem_nil_iff
abbrev eI:=@Array.empty_append
abbrev eJ:=@Array.getElem?_append_right
abbrev eK:=@List.getElem?_take
abbrev eL:=@List.length_mergeSort
abbrev eM:=@Nat.add_assoc
abbrev eN:=@List.push_toArray
abbrev eO:=@List.mem_iff_getElem
abbrev eP:=@List.drop_eq_getElem_cons
abbrev eQ:=@List.getElem?_modify
abbrev eR:=@List.extract_eq_take_drop
abbrev eS:=@Nat.le_of_lt
abbrev eT:=@Option.bind_some
abbrev eU:=@List.getElem_mem
abbrev eV:=@List.length_pos_iff
abbrev eW:=@Bool.eq_iff_iff
abbrev eX:=@Nat.eq_zero_or_pos
abbrev eY:=@Option.isSome_none
abbrev eZ:=@Array.forIn_toList
abbrev fC:=@List.mem_singleton
abbrev fD:=@List.append_of_mem
abbrev fE:=@List.drop_of_length_le
abbrev fF:=@ByteArray.data_extract
abbrev fG:=@List.eq_nil_of_length_eq_zero
abbrev fH:=@List.nodup_append
abbrev fI:=@List.mem_append_left
abbrev fJ:=@List.take_length
abbrev fK:=@Array.toList_extract
abbrev fL:=@List.map_id
abbrev fM:=@Std.Legacy.Range.forIn_eq_forIn_range'
abbrev fN:=@List.mergeSort_perm
abbrev fO:=@List.filter_eq_self
abbrev fP:=@List.foldl_cons
abbrev fQ:=@List.forIn_cons
abbrev fR:=@Option.pure_def
abbrev fS:=@List.getElem?_eq_none_iff
abbrev fT:=@List.getElem?_append_left
abbrev fU:=@Array.append_empty
abbrev fV:=@Array.foldl_toList
abbrev fW:=@List.map_set
abbrev fX:=@List.Perm.eq_of_pairwise
abbrev fY:=@List.filterMap_cons_some
abbrev fZ:=@List.filter_append
abbrev gA:=@Array.mk.injEq
abbrev gB:=@Bool.false_and
abbrev gC:=@List.pairwise_mergeSort
abbrev gE:=@Option.mem_toList
abbrev gF:=@Nat.lt_trichotomy
abbrev gG:=@Int.emod_eq_of_lt
abbrev gH:=@List.drop_eq_nil_of_le
abbrev gI:=@Nat.mul_one
abbrev gJ:=@Bool.true_and
abbrev gL:=@Nat.lt_succ_self
abbrev gM:=@List.getElem_inj
abbrev gO:=@Nat.lt_of_not_le
abbrev gQ:=@UInt8.toNat_inj
abbrev gR:=@List.all_append
abbrev gS:=@List.mem_of_mem_take
abbrev gT:=@Array.size_map
abbrev gU:=@UInt8.toNat_lt
abbrev gV:=@List.Perm.refl
abbrev gW:=@List.nodup_nil
structure Hd(q:Prop):Prop where
 o:q
def Rt{p:Prop}(h:p:=by first|exact C.out|exact C.out.drew|exact(Fo _).trans C.out|exact Below.drew ((Fo _).trans C.out)):p:=h
def FB{p:Prop}(h:p:=by first|exact Below.refl _ _|exact(Below.refl _ _).drew|exact(Below.refl _ _).drew.drew):p:=h
def HK{p:Prop}(h:p:=by walk_nrm;simp only[Value.bool.injEq,decide_eq_false_iff_not];exact(by omega)):p:=h
def HL{p:Prop}(h:p:=by simpa using(aC E (aF o (eS (ltOf G))))):p:=h
def HQ{p:Prop}(h:p:=by walk_nrm;simp only[Value.bool.injEq,decide_eq_false_iff_not];exact S):p:=h
def HV{p:Prop}(h:p:=by first|exact B.out|exact B.out.below (Below.refl _ _).drew B.out.pos):p:=h
def HZ{p:Prop}(h:p:=by simp only[aM,be_length,C,J,aX];omega):p:=h
def T5{p:Prop}(h:p:=by simp only[aM,be_length,y,aX];omega):p:=h
def JN{p:Prop}(h:p:=by first|exact Be wr _|exact(Be wr _).drew|exact(Be wr _).drew.drew):p:=h
def G0{p:Prop}(h:p:=by walk_nrm;simp only[Value.bool.injEq,decide_eq_true_eq];exact S):p:=h
def Al{p:Prop}(h:p:=by rw[←I];exact(Below.heap_alloc _ _ _ (ltOf Z.out)).trans Z.out):p:=h
def H8{p:Prop}(h:p:=by first|exact HW.out|exact HW.out.drew|exact HW.out.drew.drew):p:=h
def RV{p:Prop}(h:p:=by have:=cI N;simp at this;subst this;rfl):p:=h
def SB{p:Prop}(h:p:=by have:=dC (f:=Prod.fst) f;rwa[e]at this):p:=h
def M2{p:Prop}(h:p:=by first|exact q.out|exact q.out.drew|exact q.out.drew.drew):p:=h
def SC{p:Prop}(h:p:=by have:=(aD.1 E).1;simpa using this):p:=h
def SE{p:Prop}(h:p:=by rw[V];simp only[stepG.apply,Sem.runT_eq,q,bP];rfl):p:=h
def SG{p:Prop}(h:p:=by first|exact j.out|exact j.out.drew|exact j.out.drew.drew):p:=h
def HA{p:Prop}(h:p:=by simp only[aM,Orch.be_length,aj];omega):p:=h
def D2{p:Prop}(h:p:=by simp only[aM,Orch.be_length];omega):p:=h
def Kx{p:Prop}(h:p:=by walk_nrm;go_simp;first|done|rfl|exact⟨rfl,rfl⟩):p:=h
def An{p:Prop}(h:p:=by rw[←I];exact O.out.alloc O.out.size _):p:=h
def Aau{p:Prop}(h:p:=by simp[fits,Ty.l,V.n,V.s,V.l,C,J,s]):p:=h
def Aav{p:Prop}(h:p:=by unfold Jd;walk_nrm;rw[ah];try rfl):p:=h
def Am{p:Prop}(h:p:=by rw[←I];exact heap_alloc_new _ _):p:=h
def Aaw{p:Prop}(h:p:=by rw[eW];simp;omega):p:=h
def QV{p:Prop}(h:p:=by revert i;cases tb <;> exact id):p:=h
def Aaz{p:Prop}(h:p:=by rw[aM];omega):p:=h
def Aj{p:Prop}(h:p:=by rw[eG];omega):p:=h
def Aq{p:Prop}(h:p:=by simp[Eo,Orch.V.n,Orch.V.s]):p:=h
def HH{p:Prop}(h:p:=by have:=O.out.size;simp;omega):p:=h
def Aa4{p:Prop}(h:p:=by rwa[cN]):p:=h
def Aa5{p:Prop}(h:p:=by have:=C.out.size;simp;omega):p:=h
def Acb{p:Prop}(h:p:=by unfold Jd;walk_nrm;try rfl):p:=h
def Adu{p:Prop}(h:p:=by rw[Orch.be_length];omega):p:=h
def Af2{p:Prop}(h:p:=by simp only[maxLen];omega):p:=h
def Ao{p:Prop}(h:p:=by simp[Orch.be_length]):p:=h
def Pc{p:Prop}(h:p:=by unfold maxLen;omega):p:=h
def P2{p:Prop}(h:p:=by simpa[Kv] using O):p:=h
def Af5{p:Prop}(h:p:=by simp[Act.eval,KD]):p:=h
def Af6{p:Prop}(h:p:=by simp[Act.eval,Hp]):p:=h
def Af7{p:Prop}(h:p:=by intro e z;cases z):p:=h
def Ap{p:Prop}(h:p:=by walk_nrm;try rfl):p:=h
def Aba{p:Prop}(h:p:=by show ¬mk<0;omega):p:=h
def Aga{p:Prop}(h:p:=by walk_nrm;rw[E]):p:=h
def HI{p:Prop}(h:p:=by simpa using h):p:=h
def SR{p:Prop}(h:p:=by simpa using Z):p:=h
def Aax{p:Prop}(h:p:=by simpa using g):p:=h
def Vw{p:Prop}(h:p:=by simp[goInt]):p:=h
def Agd{p:Prop}(h:p:=by cases e;rfl):p:=h
def Ab{p:Prop}(h:p:=by kernel_rfl):p:=h
def Ah{p:Prop}(h:p:=by simp;omega):p:=h
def HM{p:Prop}(h:p:=by assumption):p:=h
def Aay{p:Prop}(h:p:=by rw[h];rfl):p:=h
def KX{p:Prop}(h:p:=by simp[Hv]):p:=h
def Agf{p:Prop}(h:p:=by simp at h):p:=h
def Af{p:Prop}(h:p:=by walk_nrm):p:=h
def Age{p:Prop}(h:p:=by simp[D]):p:=h
def BB{p:Prop}(h:p:=by cases e):p:=h
def Agc{p:Prop}(h:p:=by trivial):p:=h
def Ae{p:Prop}(h:p:=by decide):p:=h
def Aa{p:Prop}(h:p:=by omega):p:=h
def Ai{p:Prop}(h:p:=by grind):p:=h
def Ad{p:Prop}(h:p:=by simp):p:=h
def Ac{p:Prop}(h:p:=by rfl):p:=h
def Agg{p:Prop}(h:p:=by exact λS=>by first|rfl|(simp only[Hm,rev,Act.eval,rn,bC,aU,aX,Nat.reduceAdd,bM,bH,bF,List.range,List.range.loop,aY];go_simp;done)|(simp only[Hm,rev,Act.eval,rn,bC,aU,aX,Nat.reduceAdd,bM,bH,bF,List.range,List.range.loop,aY];go_simp;rfl)):p:=h
def Agp{p:Prop}(h:p:=by exact λo I O G=>by obtain⟨_,_,_,_,_,_,rfl⟩:=He O;first|exact Rf.stuck|exact Rf.stuckBind):p:=h
def Ahe{p:Prop}(h:p:=by exact λk T=>by obtain⟨h,N,rfl⟩:=Conc.mem_ofEvents T;exact touch_mute (L h N)):p:=h
def Ai2{p:Prop}(h:p:=by exact λJ E=>Yq h m L a p d n Q b y z (k.trans (E.mono k.size)) x (Fe Z)):p:=h
def Ai3{p:Prop}(h:p:=by exact λn m cs w _=>by rw[Bf (Co L)];simp[stepG.exec,I,G,L,Bm,Dg,J5]):p:=h
def Ai4{p:Prop}(h:p:=by exact λJ E=>Yr h m L a p d n Q b y z (k.trans (E.mono k.size)) (Hb Z)):p:=h
def Ai5{p:Prop}(h:p:=by exact λg=>by walk_nrm;intro E H;simp[go_sem]at H):p:=h
def Ai7{p:Prop}(h:p:=by exact λd=>by walk_nrm;intro e a;simp[go_sem]at a):p:=h
def Ajr{p:Prop}(h:p:=by exact λH=>by first|(go_simp;done)|(go_simp;rfl)):p:=h
def Ajs{p:Prop}(h:p:=by exact λe=>by have:=aA e;omega):p:=h
def Aj0{p:Prop}(h:p:=by exact λj l=>by cases l;exact aB _):p:=h
def Aj4{p:Prop}(h:p:=by exact λm=>by go_simp;first|done|rfl):p:=h
def Ale{p:Prop}(h:p:=by exact λw=>by go_simp;first|done|rfl):p:=h
def Amu{p:Prop}(h:p:=by exact λb=>by injection b;omega):p:=h
def Am3{p:Prop}(h:p:=by exact λ_ _ _ h=>by cases h):p:=h
def Am4{p:Prop}(h:p:=by exact λ_ _ o Z=>Cq Z o):p:=h
def Am8{p:Prop}(h:p:=by exact λ_ _ d Z=>Cq Z d):p:=h
def Am9{p:Prop}(h:p:=by exact λg=>by cases g):p:=h
def Anc{p:Prop}(h:p:=by exact λop f=>Ck f):p:=h
abbrev gX:=List ByteArray
abbrev gY:=List (List UInt8)
abbrev gZ:=ByteArray->Bool
abbrev hQ:=List UInt8
abbrev hU:=ByteArray
abbrev hY:=Nat->Prop
abbrev hZ:=Go.Loc->Prop
abbrev iA:=Go.World->Prop
abbrev iB:=Array Go.Value
abbrev iC:=List Go.Value
abbrev iD:=Nat->Go.Value
abbrev iE:=Option Go.Addr
abbrev iF:=Option Nat
abbrev iG:=List Nat
abbrev iH:=Go.Value->Go.World->Prop
abbrev iI(b:Nat):Go.Value:=.pointer (some ⟨b,0,none⟩)
abbrev iJ(b:Nat):Go.Addr:=⟨b,0,none⟩
abbrev iK(b k:Nat):Go.Addr:=⟨b,k,none⟩
abbrev iL(x:Int):Go.Value:=.int .i64 x
abbrev iM(w v):=Go.RowKit.Below w.heap.size w v
abbrev iN:ByteArray:=⟨#[]⟩
abbrev iO{α:Type}(_:α):Prop:=False
def iP{α}{a:α}:a=a:=rfl
