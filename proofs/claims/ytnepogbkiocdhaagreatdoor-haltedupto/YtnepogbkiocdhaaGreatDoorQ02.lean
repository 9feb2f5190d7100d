import Derived.Test.YtnepogbkiocdhaaGreatDoorQ01
open List renaming length->iY
open Array renaming size->iZ
set_option maxHeartbeats 10000000
set_option linter.all false
open Option renaming some->je,none->zt,map->yd,isSome_map->nq,elim->nk
open Go renaming World->qi,Value->p8,Frame->s9,Program->jd,FuncId->mf,TypeId->uy,Goroutine->gy,stepG->ui,undef->re,execOp->lx,Operand->jf,FloatKind->wv,Oper->xe,MapEntry->xk,Next->tj,Item->jc,Addr->uw,callFunc->xn,BinOp->uv,invoke->vb,yielded->yw,eqGuard->o4,IntKind->r9,runtimePanic->jh,unwind->fw,stuck->nh,lone->zu,movedPointer->vm,newObj->rm,movedNumber->qm,resolve->ly,Event->tw,callFunc->xn,Value->E,World->h
open Bool renaming true->jz,false->vy
open Go.stepG renaming exec->vk
open Pure renaming pure->th
open Go.Frame renaming enter->ur,catches->ir,finish->rh
open Go.Sem renaming run->qz,runT_eq->qg,events->nu,runT->l6
open Go.Extern.BytealgIndexByte renaming indexByte->y7
open Go.World renaming cell?->yg,shape?->ny,freeze->qn
open Go.Extern.BytealgCompare renaming compare->uk
open Go.Deferred renaming ofValue->pt
open Go.Region renaming wanted->jq
open Go.Extern.BytealgCount renaming count->yz
open Go.Extern.BytealgIndex renaming index->pk
open Go.Op renaming equal->oh,floatArith->ys,floatCmp->r7,complexOp->v8,stringOp->zh,equalIn->vq,shift->mq,eqGuardIn->kn,maxDepth->ll,intArith->tz
open Go.Conv renaming bytesToString->vo,floatToInt->og,stringToBytes->pe,runesToString->xf
open Go.Value renaming pointer->vp,bool->o0,tuple->gq,int->wy
open Go.Question renaming extern->wh,forced->xo
open Go.Builtin renaming unsafeAdd_->mv,delete_->ib,clear_->yl,min2->yt,max2->py,min_->vz,max_->jy,len_->ie,cap_->xl
open Go.Stepped.next renaming injEq->px
open Go.Next renaming value->lj
open Go.Extern.Bytes renaming loadBytes->vn,bytesOf->kr,asByte->y9
open Go.Op.Complex renaming sub->mh,mul->qo,add->kq,corrected->ux,quotient->sq,product->ic,arith->ug,conv->mu,cmp->uz
open Go.CallKind renaming early->yj
open Go.Goroutine.mk renaming injEq->xg
open Go.Pair renaming Rf->Y,A2->Z,Df->I
open Go renaming iW->r,Ae->j
open Go
variable {B O U v w:qi}{Bs:iG}{F:jf->p8}{K M i m:Nat}{L:List mf}{N Stop:gy->qi->Prop}{R g':gy}{S:mf→Bool}{T cs z:List s9}{W:mf→Prop}{X fr:s9}{a b c:Type}{e main:Bool}{f u:mf}{k:List jc}{l:iO}{o:xe}{t:uy}{x:tj}{r:Prop}
def Lmf(h:r:=by
 exact Rf.bind (Rf.byteOf _) λ_=>Rf.bind (Rf.byteOf _) λ_=>Rf.pure iW):=h
def Rku(h:r:=by
 refine Rf.shapeThen r (λs=>?_) (λe=>.inr λm=>rfl);split
 ·exact Rf.pure iW
 ·refine Rf.getObjThen r (λo _=>?_) (λo I O G=>?_)
  ·cases o<;>exact Rf.pure iW
  ·obtain⟨_,_,_,_,_,_,rfl⟩:=He O;obtain⟨_,_,_,_,_,_,rfl⟩:=He G;exact Rf.pure iW):=h
def Alm(h:r:=by
 split<;>first|exact Rf.stuck|exact Rf.pure Ae):=h
def Tqo(h:r:=by
 refine Rf.ite (Rf.pure iW) (Rf.bind h λr=>?_);simp only[id];exact Rf.ite Rf.unsup (Rf.pure iW)):=h
def Th6(h:r:=by
 cases a with
 |none=>exact Rf.unsup
 |some a=>exact Rf.bind (Rf.behindNumber a) λ_=>Rf.addrMod _ _ _):=h
def Ybg(h:r:=by
 cases f
 case eql=>exact Rf.boolOf (h (.inl iW))
 case neq=>exact Rf.notOf (h (.inr iW))
 all_goals first|exact Rf.unsup|(cases b<;>exact Rf.unsup)):=h
def Ogy(h:r:=by
 simp only[Cu,B0,B7,B3,Bj,B5,By,Br,Dc,Dg,Ct,Ck,Cg,Ci,A8]at h⊢;cases f
 case eql=>exact Rf.boolOf (h (.inl iW))
 case neq=>exact Rf.notOf (h (.inr iW))
 all_goals exact Rf.stuck):=h
def Bga(h:r:=by
 cases x with
 |int t i=>rw[B0];cases t<;>first|exact Rf.stuck|exact Rf.pure iW
 |_=>exact Rf.stuck):=h
def Mrf(h:r:=by
 refine Rf.bind (Rf.underlying e) λd=>?_;simp only[id];cases d<;>first|exact Rf.stuck|exact Rf.pure O5):=h
def I1f(h:r:=by
 cases y with
 |int q b=>rw[B0,B0];exact Rf.pure Ae
 |pointer b=>cases b<;>first|exact Rf.unsup|exact Rf.stuck
 |_=>exact Rf.stuck):=h
def Jdf(h:r:=by
 dsimp only;generalize k.format.order a b=o;cases o with
 |none=>exact Rf.bind (Rf.choose _) λ_=>Rf.pure Ae
 |some o=>cases o<;>exact Rf.pure Ae):=h
def Rqu(h:r:=by
 cases y with
 |string b=>
  rw[Bj,Bj];exact Rf.bind (Rf.stringOp _ _ _) λr=>Rf.bind (Rf.asBool r) λb=>Rf.pure Ae
 |pointer b=>cases b<;>first|exact Rf.unsup|exact Rf.stuck
 |_=>exact Rf.stuck):=h
def Ewc(h:r:=by
 rwa[fY,eK,fY,eK]):=h
def F7p(h:r:=by
 simp only[aQ]at h;rw[B b h.1.1.1,B d h.1.1.2,B c h.1.2];exact MO (Xa p _ _ _ _ h.2)):=h
def Udb(h:r:=by
 cases y<;>first|rfl|exact absurd (.inl ⟨_,iW⟩) Z|exact absurd (.inr ⟨_,iW⟩) Z):=h
def Gd4(h:r:=by
 simp only[runN,Stepped.next.injEq]at Y;rw[←(Rt Y).1];exact⟨_,iW⟩):=h
def P8y(h:r:=by
 rw[B6]at O;obtain⟨x,Z,rfl⟩:=bA.1 O;have:=Q i x Z;split
 ·cases x<;>first|trivial|exact this
 ·exact this):=h
def V8x(h:r:=by
 refine⟨I,G,.inr (.inr (.inr ?_))⟩;rcases K with rfl|⟨Q,B,S,R,m,rfl,_⟩|⟨_,z,_⟩|⟨B,S,R,m,rfl⟩
 ·exact⟨_,_,_,iW,iW⟩
 ·grind
 ·exact absurd iW (z _ _ _)
 grind):=h
namespace Go.Pair
variable {n q:Ren}{s:Sem tj}{y:Code}
open Go Go.Conc
section
variable {d:Type} {P:jd} {H:iG}
def Rf.viewAt(r):I H P n (yd λx=>(Ew n x.1,x.2)) (Go.viewAt r) (Go.viewAt (sh n r)):=by exact Rku
def Rf.numberAt(r):I H P n (yd λx=>(Ew n x.1,x.2)) (Go.numberAt r) (Go.numberAt (sh n r)):=by exact Rku
def Rf.behindNumber(a):I H P n (λx=>(Ew n x.1,x.2)) (Go.behindNumber a) (Go.behindNumber (Ew n a)):=by refine Y.bind (Y.numberAt a.1) λx=>Y.pure ?_;cases x<;>rfl
theorem Rf.noView(a):I H P n id (Go.noView a) (Go.noView (Ew n a)):=by refine Y.bind (Y.viewAt a.1) λo=>?_;rw[nq];split;exact Y.unsup;exact Y.pure r
theorem Rf.byteOf(a):I H P n id (Go.byteOf a) (Go.byteOf (Ew n a)):=by rw[Go.byteOf];show I H P n id _ (match a.3 with|some s=>(th s:Sem Nat)|_=>_);cases a.3 with|some s=>exact Y.pure r|none=>refine Y.bind Y.program λp=>Y.bind (Y.noView a) λ_=>Y.shapeThen a.1 (λs=>?_) (λe=>.inr λm=>rfl);simp[id];cases s with|none=>exact Y.stuck|some s=>dsimp only;split;exact Y.pure r;show I H P n id _ (match byteOfCell p p.depth s.1 (a.2 % p.cellsOf s.1) with|some b=>th (a.2 / p.cellsOf s.1 * p.bytesOf s.1+b)|_=>_);cases byteOfCell p p.depth s.1 _ with|none=>exact Y.stuck|some b=>exact Y.pure r
def Rf.partAt(a k m):I H P n (Ew n) (Go.partAt a k m) (Go.partAt (Ew n a) k m):=by refine Y.bind (Y.byteOf a) λb=>Y.bind (Y.byteOf (P:=P) (n:=n) (H:=H) { block:=a.1,off:=a.2+k }) λJ=>Y.pure ?_;simp[id];split<;>rfl
def Rf.fieldPlace(a f):I H P n (Ew n) (Go.fieldPlace a f) (Go.fieldPlace (Ew n a) f):=by refine Y.bind (Y.sizeOf _) λs=>?_;simp[id];split;exact Y.partAt _ _ _;exact Y.pure (Ld n a f.3).symm
def Rf.fieldAt(s a f):I H P n (Z n) (Instr.fieldAt s a f) (Instr.fieldAt s (Z n a) f):=by refine Y.bind (Y.underlying _) λd=>?_;simp[id];cases d with|struct L=>(dsimp only;cases L[f]? with|none=>exact Y.stuck|some f=>exact Y.bind (Y.sureAddr _) λ_=>Y.bind (Y.fieldPlace _ _) λ_=>Y.pure Ae)|_=>exact Y.stuck
def Ahp(n a b):(Ew n a==Ew n b)=(a==b):=by rw[gU,beq_iff_eq,beq_iff_eq];exact⟨Ak1,λh=>by rw[h]⟩
def WI(n i j):(sh n i==sh n j)=(i==j):=by rw[gU,beq_iff_eq,beq_iff_eq];exact Aoq
theorem Rf.listForInMem{k q:a->b->Sem (ForInStep b)}:∀(l:List a)(c:b),(∀x,x∈l->∀y,Df H P n id (k x y) (q x y))->Df H P n id (forIn l c k) (forIn l c q)
 |[],c,h=>by exact Rf.pure iW|x::l,c,h=>by rw[fS,fS];refine Rf.bind (h x Ae c) λs=>?_;cases s with|done c=>exact Rf.pure iW|yield c=>exact Rf.listForInMem l c λy U=>h y (by simp[U])
def Rf.arrayForInMem{k q:a->b->Sem (ForInStep b)}(l:Array a)(c)(h:∀x∈l,∀y,I H P n id (k x y) (q x y)):I H P n id (forIn l c k) (forIn l c q):=by rw[←eY,←eY];exact Y.listForInMem _ _ λx Z=>h x QV
def Rf.rangeForIn{k q:Nat->a->Sem (ForInStep a)}(h:∀x y,I H P n id (k x y) (q x y))(l:Std.Legacy.Range)(b):I H P n id (forIn l b k) (forIn l b q):=by rw[fO,fO];exact Y.listForInMem _ _ λx _ y=>h x y
def CK(P:jd):Nat->uy->Bool
 |0,_=>vy
 |d+1,t=>match P.underlying t with
  |some .bool=>jz
  |some (.int _)=>jz
  |some .string=>jz
  |some (.slice _)=>jz
  |some (.map _ _)=>jz
  |some (.func _ _ _)=>jz
  |some (.struct fs)=>fs.all λf=>CK P d f.type
  |some (.array _ e)=>CK P d e
  |_=>vy
def Ahq{G i}(h:n.Fix G):(sh n i<G)=(i<G):=by refine propext ⟨λV=>?_,λV=>?_⟩;have:=Hk (h _ V:sh n (sh n i)=sh n i);omega;rwa[show sh n i=i from h i V]
theorem Rf.equalIn(p:n.Fix P.globals.size):∀(m:Nat)(t:uy),CK P m t=jz->∀(d:Nat)(x y:p8),Df H P n id (vq d t x y) (vq d t (A2 n x) (A2 n y)):=by intro m;induction m with|zero=>intro t h;cases h|succ m O=>intro t h d x y;cases d with|zero=>exact Rf.unsup|succ d=>unfold vq;refine Rf.underlyingIn t λu v=>?_;unfold CK at h;rw[v]at h;cases u with|bool=>(cases x<;>first|exact Rf.stuck|(cases y<;>first|exact Rf.stuck|(simp only[Cu];exact Rf.pure iW)))|string=>(cases x<;>first|exact Rf.stuck|(cases y<;>first|exact Rf.stuck|(simp only[Bj];exact Rf.pure iW)))|int E=>(cases x with|int C a=>(cases y with|int w b=>simp only[B0];split;exact Rf.pure iW;exact Rf.stuck|pointer b=>cases b<;>(cases a with|ofNat z=>(cases z<;>first|exact Rf.unsup|(rw[B0,A8];exact Rf.pure iW))|negSucc z=>exact Rf.unsup)|_=>exact Rf.stuck)|pointer a=>(cases a with|none=>cases y<;>exact Rf.unsup|some a=>cases y with|int w b=>(cases b with|ofNat z=>(cases z<;>first|exact Rf.unsup|(rw[B0,A8];exact Rf.pure iW))|negSucc z=>exact Rf.unsup)|pointer b=>(cases b with|none=>exact Rf.unsup|some b=>simp only[A8,aI];refine Rf.bind (Rf.behindNumber a) λc=>Rf.bind (Rf.behindNumber b) λg=>?_;dsimp only;refine Rf.programIn ?_;have i:((Ew n c.1).block==(Ew n g.1).block)=(c.1.block==g.1.block):=WI n _ _;have L:decide ((Ew n c.1).block<P.globals.size)=decide (c.1.block<P.globals.size):=decide_eq_decide.2 (iff_of_eq (Ahq p));simp only[i,L,Ahp];split;exact Lmf;refine Rf.bind (Rf.typeInfo t) λT=>?_;simp only[id];split;split;exact Rf.pure iW;exact Rf.unsup;exact Rf.unsup)|_=>exact Rf.unsup)|_=>cases y<;>first|exact Rf.stuck|exact Rf.unsup)|slice e=>(cases x with|slice a l F=>(cases y with|slice b V B=>(cases a<;>cases b<;>first|exact Rf.stuck|(simp only[Br];exact Rf.pure iW))|_=>cases a<;>exact Rf.stuck)|_=>cases y<;>exact Rf.stuck)|map M J=>(cases x with|map a=>(cases y with|map b=>(cases a<;>cases b<;>first|exact Rf.stuck|(simp only[Dc];exact Rf.pure iW))|_=>cases a<;>exact Rf.stuck)|_=>cases y<;>exact Rf.stuck)|func G K N=>(cases x with|nilFunc=>(cases y<;>first|exact Rf.stuck|(simp only[B5];exact Rf.pure iW)|(simp only[B5,Ct];exact Rf.pure iW))|func D Q A=>(cases y<;>first|exact Rf.stuck|(simp only[B5,Ct];exact Rf.pure iW))|_=>cases y<;>exact Rf.stuck)|struct o=>(cases x with|agg X=>(cases y with|agg j=>simp only[Cg];refine Rf.programIn ?_;split;exact Rf.never (Db iW trivial);refine Rf.bind (Rf.arrayForInMem o _ λf I s=>?_) λr=>?_;(have S:CK P m f.type=jz:=by have:=(Array.all_eq_true'.1 h) f I;simpa using this);split;refine Rf.bind (Rf.part _ _ _) λa=>Rf.bind (Rf.part _ _ _) λb=>Rf.bind (O f.type S d _ _) λr=>?_;simp only[id];split<;>exact Rf.pure iW;exact Rf.pure iW;simp only[id];split<;>exact Rf.pure iW|_=>exact Rf.stuck)|_=>cases y<;>exact Rf.stuck)|array l e=>(cases x with|agg X=>(cases y with|agg j=>simp only[Cg];refine Rf.bind (Rf.sizeOf e) λs=>?_;simp only[id];refine Rf.bind (Rf.rangeForIn (λk q=>?_) _ _) λr=>?_;refine Rf.bind (Rf.part _ _ _) λa=>Rf.bind (Rf.part _ _ _) λb=>Rf.bind (O e h d _ _) λr=>?_;simp only[id];split<;>exact Rf.pure iW;simp only[id];split<;>exact Rf.pure iW|_=>exact Rf.stuck)|_=>cases y<;>exact Rf.stuck)|_=>cases h
def Rf.equalNil{e}(r:P.underlying t=je (.pointer e)){x y}(h:x=.pointer zt∨y=.pointer zt):I H P n id (oh t x y) (oh t (Z n x) (Z n y)):=by
 rw[oh,ll,vq];refine Y.underlyingIn t λu c=>?_;rw[r]at c;obtain rfl:=aC c;obtain rfl|rfl:=h;cases y<;>first|exact Y.stuck|skip
 rename_i b;cases b<;>(simp[A8];exact Y.pure iW);cases x<;>first|exact Y.stuck|skip
 rename_i a;cases a<;>(simp[A8];exact Y.pure iW)
end
section
variable {d:Type} {P:jd} {H:iG}
theorem Rf.stuckBind{g:a->d}{m}{k:b->Sem a}{t}:I H P n g (nh m >>= k) t:=Y.never (Eh (Db (h:=.stuck m) r trivial))
theorem Rf.unsupBind{g:a->d}{m}{k:b->Sem a}{t}(h:HB (.unsupported m):=by exact trivial):I H P n g (Go.unsupported m >>= k) t:=Y.never (Eh (Db r h))
theorem Rf.intArith(a:BinOp)(k:IntKind)(x y:Int):Df H P n (A2 n) (Op.intArith a k x y) (Op.intArith a k x y):=by unfold Op.intArith;split <;> first|exact Rf.stuck|exact Rf.pure (by simp)
theorem Rf.intDiv(a:BinOp)(k:IntKind)(x y:Int):Df H P n (A2 n) (Op.intDiv a k x y) (Op.intDiv a k x y):=by unfold Op.intDiv;split;exact Rf.rt;split <;> first|exact Rf.stuck|exact Rf.pure (by simp)
theorem Rf.intBits(a:BinOp)(k:IntKind)(x y:Int):Df H P n (A2 n) (Op.intBits a k x y) (Op.intBits a k x y):=by unfold Op.intBits;split <;> first|exact Rf.stuck|exact Rf.pure (by simp)
theorem Rf.shift(a:BinOp)(k:IntKind)(x:Int)(q:IntKind)(y:Int):Df H P n (A2 n) (Op.shift a k x q y) (Op.shift a k x q y):=by rw[Op.shift];split;exact Rf.rt;split <;> first|exact Rf.stuck|exact Rf.pure (by simp)
theorem Rf.intCmp(a:BinOp)(x y:Int):Df H P n (A2 n) (Op.intCmp a x y) (Op.intCmp a x y):=by unfold Op.intCmp;split <;> first|exact Rf.stuck|exact Rf.pure (by simp)
def Rf.floatArith(b k x y):I H P n (Z n) (ys b k x y) (ys b k x y):=by unfold ys;dsimp only;repeat' first|exact Y.stuck|exact Y.stuckBind|exact Y.pure (B7 n _ _).symm|exact Y.bind (Y.choose _) λ_=>Y.pure (B7 n _ _).symm|rw[pure_bind]|split
theorem Rf.floatCmp(a:BinOp)(k:FloatKind)(x y:Nat):Df H P n (A2 n) (Op.floatCmp a k x y) (Op.floatCmp a k x y):=by unfold Op.floatCmp;split <;> first|exact Rf.stuck|exact Rf.pure (by simp)
def Rf.stringOp(a)(x y:iF):I H P n (Z n) (zh a x y) (zh a x y):=by unfold zh;split;split;exact Y.unsup;exact Y.pure Ae;all_goals first|exact Y.stuck|exact Y.pure Ae
def Rf.unary(b x):I H P n (Z n) (Op.unary b x) (Op.unary b (Z n x)):=by unfold Op.unary;cases b<;>cases x<;>first|exact Y.stuck|(simp[B0];exact Y.intArith _ _ _ _)|(simp[B0];exact Y.intBits _ _ _ _)|(simp[B7];exact Y.pure Ae)|(simp[B3];exact Y.pure Ae)|(simp[Cu];exact Y.pure Ae)|(rename_i a;cases a<;>first|exact Y.stuck|exact Y.unsup)
theorem Rf.twoPlaces(p:n.Fix P.globals.size)(a b):I H P n id (Op.twoPlaces a b) (Op.twoPlaces (Ew n a) (Ew n b)):=by
 have S:((Ew n a).1 != (Ew n b).1)=(a.1 != b.1):=by show(!(sh n a.1==sh n b.1))=(!(a.1==b.1));rw[WI]
 refine Y.programIn ?_;have L:decide ((Ew n a).1 ≥ P.globals.size)=decide (a.1 ≥ P.globals.size):=by have:=Ahq (i:=a.1) p;(have e:((Ew n a).1 ≥ P.globals.size)↔(a.1 ≥ P.globals.size):=by show P.globals.size<=sh n a.1↔P.globals.size<=a.1;grind);exact decide_eq_decide.2 e
 rw[S,L];split;exact Y.never (Db r trivial);exact Lmf
def Rf.addrSub(p:n.Fix P.globals.size)(k a b):I H P n (Z n) (Op.addrSub k a b) (Op.addrSub k (Ew n a) (Ew n b)):=by exact Y.bind (Y.twoPlaces p a b) λ_=>Y.pure Ae
def Rf.addrCmp(p:n.Fix P.globals.size)(c a b):I H P n (Z n) (Op.addrCmp c a b) (Op.addrCmp c (Ew n a) (Ew n b)):=by refine Y.bind (Y.twoPlaces p a b) λx=>?_;cases c<;>first|exact Y.unsup|exact Y.pure Ae
theorem Rf.addrMod(k a m):I H P n (Z n) (Op.addrMod k a m) (Op.addrMod k (Ew n a) m):=by refine Y.shapeThen a.1 (λs=>?_) (λe=>.inr λm=>rfl);cases s with|none=>exact Y.unsup|some s=>refine Y.bind (Y.typeInfo _) λT=>?_;simp[id];split;exact Y.never (Db r trivial);exact Y.bind (Y.byteOf _) λ_=>Y.pure Ae
def Rf.asNumber(a l):I H P n (Z n) (Go.asNumber a l) (Go.asNumber (Ew n a) l):=Y.bind (Y.newObj (o:=.number a l) trivial) λ_=>Y.pure (by simp[Ew])
def Xt(p d e off m):cellAtBytes p d e 0 off m=zt:=by rw[cellAtBytes];simp only[Nat.zero_mul];split;rfl;cases byteOfCell p d e _ with|none=>rfl|some h=>grind
def Rf.unsafeAdd(t x y):Df H P n (A2 n) (mv #[] t #[x,y]) (mv #[] t #[A2 n x,A2 n y]):=by rw[mv];cases x with| pointer B=>(rw[A8];refine Rf.bind (Rf.asInt y) λm=>?_;cases B with| none=>simp[id,Option.map_none];split;exact Rf.unsup;split;exact Rf.unsupBind;exact Rf.unsup| some a=>simp[id,aI];split;refine Rf.bind (Rf.viewAt a.1) λo=>?_;rw[nq];split;exact Rf.unsupBind;exact Rf.pure Ae;split;exact Rf.unsupBind;refine Rf.shapeThen a.1 (λs=>?_) (λe=>.inl λv x U Y=>by have I:(match cellAtBytes P P.depth e (0 / P.cellsOf e) a.2 m with|some off=>(th (vp (je { a with off })):Sem p8)|none=>Go.unsupported (.unsafePointer "Add")).run P v=.ok x U:=Y;rw [Nat.zero_div,Xt] at I;cases I);cases s with| none=>exact Rf.unsup| some s=>simp[id];refine Rf.bind Rf.program λp=>?_;simp[id];show Df H P n (A2 n) _ (match cellAtBytes p p.depth s.1 (s.2 / p.cellsOf s.1) a.2 m with|some off=>th (vp (je { Ew n a with off }))|none=>Go.unsupported (.unsafePointer "Add"));cases cellAtBytes p p.depth s.1 (s.2 / p.cellsOf s.1) a.2 m with| none=>exact Rf.unsup| some o=>exact Rf.pure (by simp[Ew]))| _=>exact Rf.stuck
def Rf.movedNumber(t x y):I H P n (Z n) (qm t x y) (qm t (Z n x) (Z n y)):=by unfold qm;refine Y.bind (Y.underlying t) λd=>?_;cases d;(case unsafePointer=>exact Y.unsupBind);all_goals simp[id,aX,↓reduceIte];cases x with|pointer B=>(cases B with|none=>have:=Y.unsafeAdd (P:=P) (n:=n) (H:=H) t (.pointer zt) y;simp_all|some b=>simp[A8,aI];refine Y.bind (Y.behindNumber b) λq=>?_;have:=Y.unsafeAdd (P:=P) (n:=n) (H:=H) t (.pointer (je q.1)) y;rw[A8,aI]at this;refine Y.bind this λr=>?_;cases r with|pointer a=>(cases a with|none=>rw[A8];exact Y.pure Ae|some a=>rw[A8];exact Y.asNumber a q.2)|_=>first|(simp[Cu,B0,B7,B3,Bj,B5,By,Br,Dc,Dg,Ct,Ck,Cg,Ci];exact Y.pure Ae))|_=>exact Y.stuck
def Rf.movedPointer(t x y):I H P n (Z n) (vm t x y) (vm t (Z n x) (Z n y)):=by unfold vm;cases x with|pointer B=>(cases B with|none=>have:=Y.unsafeAdd (P:=P) (n:=n) (H:=H) t (.pointer zt) y;simp_all|some b=>simp[A8,aI];refine Y.bind (Y.numberAt b.1) λq=>?_;split;exact Y.unsupBind;have:=Y.unsafeAdd (P:=P) (n:=n) (H:=H) t (.pointer (je b)) y;simp_all)|_=>exact Y.stuck
end
section
variable {d:Type} {P:jd} {H:iG}
def My(P:jd)(Q:b->Prop):Sem b->Prop
 |.pure a=>Q a
 |.choose _ k=>∀x,My P Q (k x)
 |.program k=>My P Q (k P)
 |.halt h=>HB h
 |_=>False
def My.bind{Q:b->Prop}{R:a->Prop}{k:b->Sem a}:∀{s},My P Q s->(∀c,Q c->My P R (k c))->My P R (s >>= k):=by intro s;induction s with|pure c=>exact λh H=>H c h|choose q f O=>exact λh H x=>O x (h x) H|program f O=>exact λh H=>O P h H|halt e=>exact λh H=>h|_=>exact λh=>h.elim
theorem My.rf{Q:b->Prop}{f:b->b}(c:∀a,Q a->a=f a):∀{s},My P Q s->I H P n f s s:=by intro s;induction s with|pure a=>exact λh=>Y.pure (c a h)|choose q k O=>exact λh=>Y.bind (Y.choose q) λx=>O x (h x)|program k O=>exact λh=>Y.programIn (O P h)|halt e=>exact λh=>Y.never (Db r h)|_=>exact λh=>h.elim
def Fl0(x:E):Prop:=(∃k b,x=.float k b)∨(∃b,x=.bool b)∨∃k a b,x=.complex k a b
def Fl0.ren{x}(h:Fl0 x):x=Z n x:=by obtain⟨k,b,rfl⟩|⟨b,rfl⟩|⟨k,a,b,rfl⟩:=h<;>simp
theorem AB(a k x y):My P (λv=>∃b,v=Value.float k b) (ys a k x y):=by unfold ys;dsimp only;repeat' first|exact trivial|exact⟨_,r⟩|exact λ_=>⟨_,r⟩|rw[pure_bind]|split
theorem FW(a k x y):My P (λv=>∃b,v=o0 b) (r7 a k x y):=by unfold r7;split<;>first|exact⟨_,r⟩|exact trivial
theorem Rf.eqGuardIn:∀(d:Nat)(t:uy)(x y:p8),Df H P n id (kn d t x y) (kn d t (A2 n x) (A2 n y))
 |0,t,x,y=>Rf.unsup|d+1,t,x,y=>by rw[kn];refine Rf.bind (Rf.underlying t) λu=>?_;simp only[id];cases u with|interface Z=>(cases x with|nilIface=>(cases y<;>first|(simp[By];exact Rf.pure iW)|(simp[By,Cu,B0,B7,B3,Bj,B5,Br,Dc,Dg,Ct,Ck,Cg,Ci,A8];exact Rf.pure iW))|_=>first|exact Rf.pure iW|(simp[Cu,B0,B7,B3,Bj,B5,Br,Dc,Dg,Ct,Ck,Cg,Ci,A8];exact Rf.pure iW))|struct o=>(cases x with|agg X=>(cases y with|agg j=>simp only[Cg];refine Rf.bind (Rf.arrayForInMem o _ λf I s=>?_) λr=>?_;split;refine Rf.bind (Rf.part _ _ _) λa=>Rf.bind (Rf.part _ _ _) λb=>Rf.bind (Rf.eqGuardIn d f.2 _ _) λr=>?_;simp[id];split<;>exact Rf.pure iW;exact Rf.pure iW;simp[id];split<;>exact Rf.pure iW|_=>first|exact Rf.pure iW|(simp[Cu,B0,B7,B3,Bj,B5,By,Br,Dc,Dg,Ct,Ck,Cg,Ci,A8];exact Rf.pure iW))|_=>first|exact Rf.pure iW|(simp[Cu,B0,B7,B3,Bj,B5,By,Br,Dc,Dg,Ct,Ck,Cg,Ci,A8];exact Rf.pure iW))|array l e=>(cases x with|agg X=>(cases y with|agg j=>simp only[Cg];refine Rf.bind (Rf.sizeOf e) λs=>?_;simp only[id];refine Rf.bind (Rf.rangeForIn (λk q=>?_) _ _) λr=>?_;refine Rf.bind (Rf.part _ _ _) λa=>Rf.bind (Rf.part _ _ _) λb=>Rf.bind (Rf.eqGuardIn d e _ _) λr=>?_;simp only[id];split<;>exact Rf.pure iW;simp only[id];split<;>exact Rf.pure iW|_=>first|exact Rf.pure iW|(simp only[Cu,B0,B7,B3,Bj,B5,By,Br,Dc,Dg,Ct,Ck,Cg,Ci,A8];exact Rf.pure iW))|_=>first|exact Rf.pure iW|(simp only[Cu,B0,B7,B3,Bj,B5,By,Br,Dc,Dg,Ct,Ck,Cg,Ci,A8];exact Rf.pure iW))|_=>exact Rf.pure iW
end
section
variable {d:Type} {P:jd} {H:iG}
abbrev Mu(P:jd){b}(s:Sem b):Prop:=My P (λ_=>True) s
def Mu.bind{s}{k:b->Sem a}(h:Mu P s)(E:∀c,Mu P (k c)):Mu P (s >>= k):=My.bind h λc _=>E c
theorem Mu.ff(s x d):My P (λv=>∃b,v=Value.float d b) (Conv.floatToFloat s x d):=by rw[Conv.floatToFloat];repeat' first|exact trivial|exact⟨_,r⟩|exact λ_=>⟨_,r⟩|rw[pure_bind]|split|dsimp only
def Mu.arith(op k x y):Mu P (ug op k x y):=by rw[ug];refine My.bind (AB op k x y) λv h=>?_;obtain⟨b,rfl⟩:=h;exact trivial
def Mu.cmp(op k x y):Mu P (uz op k x y):=by rw[uz];refine My.bind (FW op k x y) λv h=>?_;obtain⟨b,rfl⟩:=h;exact trivial
def Mu.conv(s x d):Mu P (mu s x d):=by rw[mu];split;exact trivial;refine My.bind (Mu.ff s x d) λv h=>?_;obtain⟨b,rfl⟩:=h;exact trivial
def Mu.product(a b c d):Mu P (ic a b c d):=by rw[ic,mh,qo,kq];repeat' first|exact trivial|refine Mu.bind (Mu.arith _ _ _ _) (λ_=>?_)
def Mu.corrected(s a b c d):Mu P (ux s a b c d):=by rw[ux,mh,qo,kq];repeat' first|exact trivial|refine Mu.bind (Mu.arith _ _ _ _) (λ_=>?_)
def Mu.quotient(a b c d):Mu P (sq a b c d):=by rw[sq,mh,qo,kq,Op.Complex.quo];repeat' first|exact trivial|exact Mu.corrected _ _ _ _ _|refine Mu.bind (Mu.arith _ _ _ _) (λ_=>?_)|refine Mu.bind (Mu.cmp _ _ _ _) (λ_=>?_)|rw[pure_bind]|dsimp only|split
theorem DR(op k a b c d):My P Fl0 (v8 op k a b c d):=by unfold v8;repeat' first|exact trivial|exact .inr (.inl ⟨_,r⟩)|exact .inr (.inr ⟨_,_,_,r⟩)|refine My.bind (Mu.arith _ _ _ _) (λ_ _=>?_)|refine My.bind (Mu.cmp _ _ _ _) (λ_ _=>?_)|refine My.bind (Mu.conv _ _ _) (λ_ _=>?_)|refine My.bind (Mu.product _ _ _ _) (λ_ _=>?_)|refine My.bind (Mu.quotient _ _ _ _) (λ_ _=>?_)|dsimp only|split
def Rf.complexOp(op k a b c d):I H P n (Z n) (v8 op k a b c d) (v8 op k a b c d):=My.rf (λx h=>h.ren) (DR op k a b c d)
def Rf.equal(p:n.Fix P.globals.size)(h:CK P m t=jz)(x y):I H P n id (oh t x y) (oh t (Z n x) (Z n y)):=Y.equalIn p m t h _ x y
end
section
variable {d:Type} {P:jd} {H:iG}
def Rf.boolOf{s t}(h:I H P n id s t):I H P n (Z n) (do th (o0 (←s))) (do th (o0 (←t))):=Y.bind h λ_=>Y.pure Ae
def Rf.notOf{s t}(h:I H P n id s t):I H P n (Z n) (do th (o0 (!(←s)))) (do th (o0 (!(←t)))):=Y.bind h λ_=>Y.pure Ae
def Rf.iteStuck{a}[Decidable a]{m}{f:b->c}{s t}(h:¬a->I H P n f s t):I H P n f (if a then nh m else s) (if a then nh m else t):=by split;exact Y.stuck;exact h ‹_›
def Rf.ite{a}[Decidable a]{f:b->c}{s W t S}(h:I H P n f s t)(d:I H P n f W S):I H P n f (if a then s else W) (if a then t else S):=by split;exact h;exact d
theorem Rf.binOp(p:n.Fix P.globals.size)(f t x y)(h:f=.eql∨f=.neq->I H P n id (oh t x y) (oh t (Z n x) (Z n y))):I H P n (Z n) (Go.binOp f t x y) (Go.binOp f t (Z n x) (Z n y)):=by cases x with|int k a=>(cases y with|int q b=>(simp[B0];cases f;(case shl=>exact(Y.shift .shl k a q b:I H P n (Z n) (mq .shl k a q b) _));(case shr=>exact(Y.shift .shr k a q b:I H P n (Z n) (mq .shr k a q b) _));(all_goals refine Y.iteStuck λ_=>?_);all_goals first|exact Y.intArith _ _ _ _|exact Y.intDiv _ _ _ _|exact Y.intBits _ _ _ _|exact Y.intCmp _ _ _)|pointer b=>(simp[B0,A8]at h⊢;cases f;(case eql=>exact Y.boolOf (h (.inl r)));(case neq=>exact Y.notOf (h (.inr r)));(case add=>have:=Y.movedNumber (P:=P) (n:=n) (H:=H) t (.pointer b) (.int k a);rw[B0,A8]at this;exact this);(case and=>cases b with|none=>exact Y.unsup|some b=>exact Y.bind (Y.behindNumber b) λ_=>Y.addrMod _ _ _);all_goals first|exact Y.unsup|(cases b<;>exact Y.unsup))|_=>exact Ogy)|float k a=>(cases y with|float q b=>(simp[B7];cases f;(all_goals refine Y.iteStuck λ_=>?_);all_goals first|exact Y.floatArith _ _ _ _|exact Y.floatCmp _ _ _ _)|pointer b=>simp[B7,A8]at h⊢;exact Ybg|_=>exact Ogy)|complex k a c=>(cases y with|complex q b d=>simp[B3];cases f;(all_goals refine Y.iteStuck λ_=>?_);all_goals exact Y.complexOp _ _ _ _ _ _|pointer b=>simp[B3,A8]at h⊢;exact Ybg|_=>exact Ogy)|string a=>(cases y with|string b=>(have e:Go.binOp f t (.string a) (.string b)=zh f a b:=by cases f<;>rfl);rw[Bj,Bj,e];exact Y.stringOp _ _ _|pointer b=>simp[Bj,A8]at h⊢;exact Ybg|_=>exact Ogy)|pointer a=>(cases y with|int k b=>simp[B0,A8]at h⊢;cases f;(case eql=>exact Y.boolOf (h (.inl r)));(case neq=>exact Y.notOf (h (.inr r)));(case add=>refine Y.bind (Y.underlying t) λd=>?_;simp[id];have C:=Y.movedPointer (P:=P) (n:=n) (H:=H) t (.pointer a) (.int k b);have J:=Y.movedNumber (P:=P) (n:=n) (H:=H) t (.pointer a) (.int k b);rw[B0,A8]at C J;split;exact C;exact J);(case sub=>have:=Y.movedNumber (P:=P) (n:=n) (H:=H) t (.pointer a) (.int k (-b));rw[B0,A8]at this;exact this);(case rem=>exact Th6);(case and=>exact Th6);all_goals (cases a<;>exact Y.unsup)|pointer b=>(simp[A8]at h⊢;cases f;(case eql=>exact Y.boolOf (h (.inl r)));(case neq=>exact Y.notOf (h (.inr r)));(all_goals (cases a<;>cases b));all_goals first|exact Y.unsup|exact Y.bind (Y.behindNumber _) λ_=>Y.bind (Y.behindNumber _) λ_=>Y.addrSub p _ _ _|exact Y.bind (Y.behindNumber _) λ_=>Y.bind (Y.behindNumber _) λ_=>Y.addrCmp p _ _ _)|_=>simp[Cu,B0,B7,B3,Bj,B5,By,Br,Dc,Dg,Ct,Ck,Cg,Ci,A8]at h⊢;cases f;(case eql=>exact Y.boolOf (h (.inl r)));(case neq=>exact Y.notOf (h (.inr r)));all_goals (cases a<;>exact Y.unsup))|_=>cases y with|pointer b=>simp[Cu,B0,B7,B3,Bj,B5,By,Br,Dc,Dg,Ct,Ck,Cg,Ci,A8]at h⊢;exact Ybg|_=>exact Ogy
theorem Rf.eqGuard(c t x y a b):I H P n id (o4 c t x y a b) (o4 c t x y (Z n a) (Z n b)):=by
 have M:(c=.eql∨c=.neq)∨o4 c t x y a b=th ()/\o4 c t x y (Z n a) (Z n b)=th ():=by cases c<;>first|exact .inl (.inl r)|exact .inl (.inr r)|exact .inr ⟨r,r⟩
 obtain M|⟨S,L⟩:=M;have F:∀a b,o4 c t x y a b=o4 .eql t x y a b:=by obtain rfl|rfl:=M<;>exact λ_ _=>rfl
 rw[F,F];unfold o4;simp[Bool.not_true,aX,↓reduceIte];cases a with|nilIface=>(cases b with|nilIface=>have h:=Y.eqGuardIn (P:=P) (n:=n) (H:=H) ll t .nilIface .nilIface;simp[By]at h⊢;exact Tqo|_=>simp[Cu,B0,B7,B3,Bj,B5,By,Br,Dc,Dg,Ct,Ck,Cg,Ci,A8];exact Y.pure r)|agg X=>(cases b with|agg j=>have h:=Y.eqGuardIn (P:=P) (n:=n) (H:=H) ll t (.agg X) (.agg j);simp[Cg]at h⊢;refine Y.bind Y.program λp=>Y.bind Y.program λq=>?_;simp[id];exact Tqo|_=>simp[Cu,B0,B7,B3,Bj,B5,By,Br,Dc,Dg,Ct,Ck,Cg,Ci,A8];exact Y.pure r)|_=>simp[Cu,B0,B7,B3,Bj,B5,By,Br,Dc,Dg,Ct,Ck,Cg,Ci,A8];exact Y.pure r
 rw[S,L];exact Y.pure r
end
section
variable {d:Type} {P:jd} {H:iG}
theorem Rf.listForInMap{f:a->d}{k:a->b->Sem (ForInStep b)}{q:d->b->Sem (ForInStep b)}(h:∀x y,Df H P n id (k x y) (q (f x) y)):∀(l:List a)(c:b),Df H P n id (forIn l c k) (forIn (l.map f) c q)
 |[],c=>by exact Rf.pure iW|x::l,c=>by rw[bF,fS,fS];refine Rf.bind (h x c) λs=>?_;cases s with|done c=>exact Rf.pure iW|yield c=>exact Rf.listForInMap h l c
def Rf.arrayForInMap{f:a->d}{k:a->b->Sem (ForInStep b)}{q:d->b->Sem (ForInStep b)}(h:∀x y,I H P n id (k x y) (q (f x) y))(l:Array a)(c):I H P n id (forIn l c k) (forIn (l.map f) c q):=by rw[←eY,←eY,bS];exact Y.listForInMap h _ _
def Rf.congr{f:b->c}{s W t S}(h:I H P n f W S)(d:∀v,s.runT P v #[]=W.runT P v #[])(R:∀v,t.runT P v #[]=S.runT P v #[]):I H P n f s t:=by
 have a:∀v,s.run P v=W.run P v:=λv=>by simp_all
 have L:∀v,s.events P v #[]=W.events P v #[]:=λv=>aK Prod.snd (d v);have g:∀v,t.run P v=S.run P v:=λv=>by simp_all
 have i:∀v,t.events P v #[]=S.events P v #[]:=λv=>aK Prod.snd (R v);refine⟨λv e U Q p Y=>by rw[L];exact h.1 v e U Q p (a v▸Y),λv x U Q p Y=>h.2 v x U Q p (a v▸Y),λJ u v w d Q p O e U Y j=>?_⟩;rw[L]at O⊢;rw[a]at Y;rw[g,i];exact h.3 J u v w d Q p O e U Y j
def DQ(e)(c:iJ)(k:uw->Sem a)(v):(Go.newRow e c >>= λb=>Go.markStringish b >>= λ_=>k b).runT P v #[]=(rm (.cells c e (c.size,c.size+1)) >>= λr=>k (iQ r)).runT P v #[]:=by show(k (iQ v.1.size) |> λs=>(Go.markStringish (iQ v.1.size) >>= λ_=>s).runT P _ #[])=(k (iQ v.1.size)).runT P _ #[];(have d:ny { v with heap:=v.1.push (.cells c e) } v.1.size=je (e,c.size):=by simp[ny]);show((match ny _ v.1.size with|some (_,m)=>Go.freeze _ 1|_=>th ()) >>= λ_=>k (iQ v.1.size)).runT P _ #[]=_;rw[d];show(k (iQ v.1.size)).runT P _ #[]=_;congr 1;rw[qn];simp[Nat.one_ne_zero,cB];congr 1;grind
def Rf.bytesToString(x):I H P n (Z n) (vo x) (vo (Z n x)):=by cases x with|slice a l c=>(rw[Br];cases a with|none=>exact Y.pure Ae|some a=>exact Y.bind (Y.loadCells _ _) λcs=>Y.bind (Y.arrayForInMap (λx y=>Bga) _ _) λs=>Y.pure Ae)|_=>exact Y.stuck
def Afm(k)(f:UInt8->Int)(l:Array UInt8)(m):(l.map (λb=>wy k (f b))++Array.replicate m (wy k 0)).map (Z n)=l.map (λb=>wy k (f b))++Array.replicate m (wy k 0):=by simp[dQ,cY]
def Rf.stringToBytes(e)(s:iF):I H P n (Z n) (pe e s) (pe e s):=by refine Rf.bind (Rf.choose _) λI=>?_;simp[id];generalize M:s.1.map _++Array.replicate _ _=c;(have Y:c.map (Z n)=c:=by rw[←M,Afm]);refine Rf.congr ?_ (DQ e c _) (DQ e c _);have h:=Rf.newObj (P:=P) (n:=n) (H:=H) (o:=.cells c e (c.size,c.size+1)) trivial;rw[show Dr n _=.cells c e (c.size,c.size+1) by simp[Dr,Y]]at h;exact Rf.bind h λr=>Rf.pure (by simp[Ew])
def Rf.floatToInt(k b d):I H P n (Z n) (og k b d) (og k b d):=by rw[og];split;split;exact Y.pure Ae;exact Y.bind (Y.choose _) λ_=>Y.pure Ae;exact Y.bind (Y.choose _) λ_=>Y.pure Ae
def Aej(P:jd)(s d:uy):Bool:=
 match P.underlying s,P.underlying d with
 |some (.int _),je (.int _)=>jz
 |some .string,je (.slice e)=>match P.underlying e with|some (.int .u8)=>jz|_=>vy
 |some (.slice e),je .string=>match P.underlying e with|some (.int .u8)=>jz|_=>vy
 |some .string,je .string=>jz
 |_,_=>vy
def Rf.convert(s d x)(h:Aej P s d=jz):Df H P n (A2 n) (Go.convert s d x) (Go.convert s d (A2 n x)):=by rw[Go.convert];refine Rf.underlyingIn s λG j=>Rf.underlyingIn d λU g=>?_;rw[Aej,j,g]at h;cases G with| int k=>(cases U with| int q=>(cases x with| int _ m=>rw[B0];exact Rf.pure Ae| float s b=>rw[B7];exact Rf.floatToInt _ _ _| pointer a=>cases a <;> exact Rf.unsup| _=>exact Rf.unsup)| _=>cases h)| string=>(cases U with| string=>(cases x with| string b=>rw[Bj];exact Rf.pure Ae| int k i=>rw[B0];exact Rf.pure Ae| _=>exact Rf.unsup)| slice e=>(cases x with| string b=>(rw[Bj];dsimp only at h⊢;refine Rf.underlyingIn e λf N=>?_;rw[N]at h;cases f with| int k=>(cases k <;> first|exact Rf.stringToBytes _ _|cases h)| _=>cases h)| slice a l c=>cases a <;> exact Rf.unsup| _=>exact Rf.unsup)| _=>cases h)| slice e=>(cases U with| string=>((have D:∀y:p8,Df H P n (A2 n) (Go.underlying e >>= λu=>match u with| .int .u8=>vo y| .int .i32=>xf y| _=>nh "Convert: a slice of what to string?") (Go.underlying e >>= λu=>match u with| .int .u8=>vo (A2 n y)| .int .i32=>xf (A2 n y)| _=>nh "Convert: a slice of what to string?"):=λy=>by refine Rf.underlyingIn e λf N=>?_;dsimp only at h;rw[N]at h;cases f with| int k=>(cases k <;> first|exact Rf.bytesToString _|cases h)| _=>cases h);have D:=D x;cases x with| int k i=>rw[B0];exact Rf.pure Ae| string b=>rw[Bj];exact Rf.pure Ae| _=>simp[Cu,B0,B7,B3,Bj,B5,By,Br,Dc,Dg,Ct,Ck,Cg,Ci,A8]at D⊢;exact D)| _=>cases h)| _=>cases h
end
section
variable {d:Type} {P:jd} {H:iG}
def IP(a b:iM):(a.map (Ew n)==b.map (Ew n))=(a==b):=by cases a<;>cases b<;>simp[Ahp]
def QC(a b:iN):(a.map (sh n)==b.map (sh n))=(a==b):=by cases a<;>cases b<;>simp[WI]
def MQ:∀d(a b:E),Instr.sameBits d (Z n a) (Z n b)=Instr.sameBits d a b:=by intro d;induction d with|zero=>intro a b;cases a<;>cases b<;>simp[Cu,B0,B7,B3,Bj,B5,By,Br,Dc,Dg,Ct,Ck,Cg,Ci,A8,Instr.sameBits,IP,QC]|succ d O=>intro a b;cases a<;>cases b<;>simp[Cu,B0,B7,B3,Bj,B5,By,Br,Dc,Dg,Ct,Ck,Cg,Ci,A8,Instr.sameBits,IP,QC,O,hQ,bS];congr 1;rw[List.zip_map,List.all_map];congr 1;funext x;exact O _ _
theorem Rf.keyThatStays(a b):I H P n (Z n) (Instr.keyThatStays a b) (Instr.keyThatStays (Z n a) (Z n b)):=by unfold Instr.keyThatStays;rw[MQ];split;exact Y.pure r;refine Y.bind (Y.choose _) λc=>?_;simp[id];split<;>exact Y.pure r
def RO(d k b):Instr.sameNow d (Z n k) (Z n b)=Instr.sameNow d k b:=by cases d<;>cases k<;>first|rfl|(cases b<;>simp[Cu,B0,B7,B3,Bj,B5,By,Br,Dc,Dg,Ct,Ck,Cg,Ci,A8]<;>rfl)
abbrev Ag4(n:Ren):Option (Nat×E)->Option (Nat×E):=yd λx=>(x.1,Z n x.2)
theorem Za(d k):∀X(i:Nat),Instr.findNow d (Z n k) (X.map (Jb n)) i=(Instr.findNow d k X i).map (Ag4 n)
 |[],_=>rfl|e::X,i=>by rw[bF];unfold Instr.findNow;rw[show(Jb n e).1=Z n e.1 from r,RO];cases Instr.sameNow d k e.1 with|none=>rfl|some b=>cases b with|true=>rfl|false=>exact Za d k X _
theorem Rf.findAsking(p:n.Fix P.globals.size)(h:CK P m t=jz)(k:p8):∀(X:List xk)(i:Nat),Df H P n (Ag4 n) (Instr.findAsking t k X i) (Instr.findAsking t (A2 n k) (X.map (Jb n)) i)
 |[],_=>Rf.pure iW|e::X,i=>by refine Rf.bind (Rf.equal p h k e.1) λb=>?_;simp[id];split;exact Rf.pure iW;exact Rf.findAsking p h k X _
def Rf.findKey(p:n.Fix P.globals.size)(h:CK P m t=jz)(k X):I H P n (Ag4 n) (Instr.findKey t k X) (Instr.findKey t (Z n k) (X.map (Jb n))):=by refine Y.bind (Y.underlying t) λd=>?_;simp[id];rw[Za];cases Instr.findNow d k X 0 with|none=>exact Y.findAsking p h k X 0|some r=>exact Y.pure iW
theorem FU(t):Lg P (Go.typeStr t):=Iu (CZ t) λi=>by dsimp only;split;exact(Db (h:=.unsupported (.noEntry _)) r trivial).2;exact Iv _
theorem Rf.checkKey(e:Bool):∀(m:Nat)(t:uy)(v:p8),Df H P n id (Instr.checkKey e m t v) (Instr.checkKey e m t (A2 n v))
 |0,t,v=>Rf.unsup|m+1,t,v=>by refine Rf.bind (Rf.underlying t) λd=>?_;cases d with|interface Z=>(cases v with|iface S x=>rw[Ck];refine Rf.bind (Rf.typeInfo S) λi=>?_;simp only[id];by_cases M:(!i.9)=jz;refine Rf.never ?_;simp[M,bV];by_cases N:e=jz;simp[N,bV];exact Eh (J8 _);simp[N];exact Hi (FU _) λ_=>Eh (J8 _);simp[M];exact Rf.checkKey e m S x|nilIface=>rw[By];exact Rf.pure iW|_=>exact Rf.stuck)|array l R=>(cases v with|agg cs=>rw[Cg];refine Rf.bind (Rf.rangeForIn (λi y=>?_) _ _) λ_=>Rf.pure iW;exact Rf.bind (Rf.sizeOf _) λs=>Rf.bind (Rf.part _ _ _) λc=>Rf.bind (Rf.checkKey e m _ _) λ_=>Rf.pure iW|_=>exact Rf.stuck)|struct L=>(cases v with|agg cs=>rw[Cg];refine Rf.bind (Rf.arrayForInMem L _ λf I y=>?_) λ_=>Rf.pure iW;refine Rf.ite (Rf.bind (Rf.part _ _ _) λc=>Rf.bind (Rf.checkKey e m _ _) λ_=>Rf.pure iW) (Rf.pure iW)|_=>exact Rf.stuck)|_=>exact Rf.pure iW
def LZ(P:jd)(t:uy):Bool:=match P.underlying t with|some (.map k _)=>CK P 6 k|_=>jz
def JK:I H P n (Z n) (do pure (Value.map (je (←rm (.map #[] 0))))) (do pure (Value.map (je (←rm (.map #[] 0))))):=by have h:=Y.newObj (P:=P) (n:=n) (H:=H) (o:=.map #[] 0) trivial;rw[show Dr n _=.map #[] 0 by simp[Dr]]at h;exact Y.bind h λa=>Y.pure j
def VX(t r):I H P n (Z n) (Instr.makeMap t r) (Instr.makeMap t (r.map (Z n))):=by cases r with|none=>exact JK|some x=>refine Y.bind (Y.underlying t) λd=>?_;cases d with|map k e=>exact Y.bind (Y.asInt x) λ_=>JK|_=>exact Y.stuckBind
def N8(X:Array xk):(X.map (Jb n)).isEmpty=X.isEmpty:=by simp[Array.isEmpty]
def Zo(p:n.Fix P.globals.size)(N:Ie P){M B}(i b)(h:CK P 6 M=jz)(X:Array xk):I H P n (Z n)
  (Instr.checkKey X.isEmpty 10000 M i >>= λ_=>Instr.findKey M i X.toList >>= λr=>match r with
   |some (_,v)=>(th (v,jz):Sem (E×Bool)) >>= λx=>th (if b=jz then gq #[x.1,.bool x.2] else x.1)
   |none=>Go.zeroValue B >>= λz=>(th (z,vy):Sem (E×Bool)) >>= λx=>th (if b=jz then gq #[x.1,.bool x.2] else x.1))
  (Instr.checkKey (X.map (Jb n)).isEmpty 10000 M (Z n i) >>= λ_=>Instr.findKey M (Z n i) (X.map (Jb n)).toList >>= λr=>match r with
   |some (_,v)=>(th (v,jz):Sem (E×Bool)) >>= λx=>th (if b=jz then gq #[x.1,.bool x.2] else x.1)
   |none=>Go.zeroValue B >>= λz=>(th (z,vy):Sem (E×Bool)) >>= λx=>th (if b=jz then gq #[x.1,.bool x.2] else x.1)):=by rw[N8,bS];refine Y.bind (Y.checkKey _ _ _ _) λ_=>Y.bind (Y.findKey p h i X.1) λr=>?_;cases r with|none=>refine Y.bind (Y.zeroValue N B) λz=>Y.bind (f:=λx:E×Bool=>(Z n x.1,x.2)) (Y.pure iW) λx=>Y.pure ?_;cases b<;>simp|some r=>refine Y.bind (f:=λx:E×Bool=>(Z n x.1,x.2)) (Y.pure iW) λx=>Y.pure ?_;cases b<;>simp
def Acb(p:n.Fix P.globals.size)(N:Ie P)(t x i b)(h:LZ P t=jz):I H P n (Z n) (Instr.lookup t x i b) (Instr.lookup t (Z n x) (Z n i) b):=by rw[Instr.lookup];refine Y.underlyingIn t λd y=>?_;rw[LZ,y]at h;cases d with|map M B=>(cases x with|map r=>(rw[Dc];cases r with|none=>dsimp only[Option.map_none];exact Y.bind (f:=Array.map (Jb n)) (Y.pure j) λa=>Zo p N i b h a|some r=>dsimp only[aI];refine Y.getObjThen r (λo _=>?_) Aiz;cases o with|map a C=>simp only[Dr];exact Y.bind (f:=Array.map (Jb n)) (Y.pure iW) λa=>Zo p N i b h a|_=>exact Y.stuckBind)|_=>exact Y.stuckBind)|_=>exact Y.stuck
def UW(X:Array xk)(i k v):(X.modify i λe=>{ e with key:=k,val:=v }).map (Jb n)=(X.map (Jb n)).modify i λe=>{ e with key:=Z n k,val:=Z n v }:=by apply bZ;intro j;rw[aM,bW,bW,aM];split;cases X[j]?<;>rfl;rfl
def Xa(p:n.Fix P.globals.size)(t x k v)(h:LZ P t=jz):I H P n id (Instr.mapUpdate t x k v) (Instr.mapUpdate t (Z n x) (Z n k) (Z n v)):=by refine Y.underlyingIn t λd y=>?_;rw[LZ,y]at h;cases d with|map M B=>(cases x with|map r=>(rw[Dc];cases r with|none=>exact Y.rt|some r=>refine Y.getObjThen r (λo _=>?_) Aiz;cases o with|map a C=>(refine Y.bind (Y.checkKey _ _ _ _) λ_=>?_;rw[bS];refine Y.bind (Y.findKey p h k a.1) λb=>?_;cases b with|none=>have:=Y.setObj (P:=P) (n:=n) (H:=λi=>H i∨i=r) (o:=.map (a.push { key:=k,val:=v,born:=C }) (C+1)) trivial Ape iW r (.inr iW);simp[Dr,Array.map_push]at this;exact this|some b=>have E:=Y.keyThatStays (P:=P) (n:=n) (H:=λi=>H i∨i=r) (((a[b.1]?).map (·.1)).getD k) k;(have S:Z n (((a[b.1]?).map (·.1)).getD k)=(((a.map (Jb n))[b.1]?).map (·.1)).getD (Z n k):=by rw[aM];cases a[b.1]?<;>rfl);rw[S]at E;refine Y.bind E λq=>?_;have:=Y.setObj (P:=P) (n:=n) (H:=λi=>H i∨i=r) (o:=.map (a.modify b.1 λe=>{ e with key:=q,val:=v }) C) trivial Ape rfl r (.inr rfl);simp[Dr,UW]at this;exact this)|_=>exact Y.stuck)|_=>exact Y.stuck)|_=>exact Y.stuck
def IK{f:a->d}:∀(l:List a)i,(l.eraseIdx i).map f=(l.map f).eraseIdx i
 |[],_=>j|x::l,0=>j|x::l,i+1=>by simp[IK l i]
def Aca(p:n.Fix P.globals.size)(L c)(X:iJ)(h:∀x,L[0]?=je x->LZ P x=jz):I H P n (Z n) (ib L c X) (ib L c (X.map (Z n))):=by unfold ib;rw[aM,aM];cases R:L[0]? with|none=>exact Y.stuck|some t=>cases X[0]? with|none=>exact Y.stuck|some x=>cases X[1]? with|none=>exact Y.stuck|some k=>have h:=h t R;dsimp only[aI];refine Y.underlyingIn t λd y=>?_;rw[LZ,y]at h;cases d with|map M B=>(cases x with|map r=>(rw[Dc];cases r with|none=>exact Y.bind (Y.checkKey _ _ _ _) λ_=>Y.pure j|some r=>dsimp only[aI];refine Y.getObjThen r (λo _=>?_) Aiz;cases o with|map a C=>(simp only[Dr];rw[N8];refine Y.bind (Y.checkKey _ _ _ _) λ_=>?_;rw[bS];refine Y.bind (Y.findKey p h k a.1) λb=>?_;cases b with|none=>have:=Y.setObj (P:=P) (n:=n) (H:=λi=>H i∨i=r) (o:=.map a C) trivial Ape iW r (.inr iW);simp[Dr]at this;exact Y.bind this λ_=>Y.pure j|some b=>have:=Y.setObj (P:=P) (n:=n) (H:=λi=>H i∨i=r) (o:=.map (a.eraseIdxIfInBounds b.1) C) trivial Ape iW r (.inr iW);(have e:(a.eraseIdxIfInBounds b.1).map (Jb n)=(a.map (Jb n)).eraseIdxIfInBounds b.1:=by apply fI.1;simp[IK]);simp[Dr,e]at this;exact Y.bind this λ_=>Y.pure j)|_=>exact Y.stuckBind)|_=>exact Y.stuckBind)|_=>exact Y.stuck
def Ahc(t x):I H P n (Z n) (Instr.range t x) (Instr.range t (Z n x)):=by have z:∀{H} l,Wl l->I H P n (Z n) (do pure (vp (je ⟨←rm l,0,zt⟩))) (do pure (vp (je ⟨←rm (Dr n l),0,zt⟩))):=λ{H} l h=>Y.bind (Y.newObj h) λc=>Y.pure (by simp[Ew]);refine Y.bind (Y.underlying t) λd=>?_;cases d with|string=>(cases x with|string s=>rw[Bj];exact z _ trivial|_=>exact Y.stuckBind)|map k e=>(cases x with|map b=>(rw[Dc];cases b with|none=>exact z _ trivial|some r=>refine Y.getObjThen r (λo _=>?_) Aiz;cases o with|map a C=>exact z _ trivial|_=>exact Y.stuckBind)|_=>exact Y.stuckBind)|_=>exact Y.stuckBind
theorem Ahb(x:Value):Df H P n (A2 n) (Instr.entry x) (Instr.entry (A2 n x)):=by unfold Instr.entry;cases x with| pointer b=>(rw [A8];cases b with| none=>exact Rf.stuck| some b=>obtain⟨c,o,s⟩:=b;cases o with| succ o=>exact Rf.stuck| zero=>dsimp only [Option.map_some,Ew];refine Rf.getObjThen c (fun o _=>?_) Aiz;cases o with| mapIter r g f h=>(simp only [Dr];cases r with| none=>exact Rf.stuck| some r=>dsimp only [Option.map_some];cases f.back? with| none=>exact Rf.stuck| some d=>dsimp only;refine Rf.getObjThen r (fun o _=>?_) Aiz;cases o with| map a C=>(simp only [Dr];refine Rf.ite Rf.unsup ?_;(have e:(a.map (Jb n)).find? (fun x=>x.3 == d)=(a.find? (fun x=>x.3 == d)).map (Jb n):=by rw [Array.find?_map];rfl);rw [e];cases a.find? (fun x=>x.3 == d) with| none=>exact Rf.unsup| some e=>exact Rf.pure (by simp [Jb]))| _=>exact Rf.stuck)| _=>exact Rf.stuck)| _=>exact Rf.stuck
def Us(p:xk->Bool)(Q:∀e,p (Jb n e)=p e)(X:Array xk):(X.map (Jb n)).filter p=(X.filter p).map (Jb n):=by apply fI.1;simp[fP,bS,List.filter_map,cY,Q]
def Y0(since:Nat)(seen:Array Nat)(es:Array xk):Array (Option xk):=
 (if(Array.filter (λx=>decide (x.born<since)) (Array.filter (λe=>!seen.contains e.born) es)).isEmpty=jz then #[zt] else #[]) ++
  Array.map je (Array.filter (λx=>decide (x.born<since)) (Array.filter (λe=>!seen.contains e.born) es)++Array.filter (λx=>decide (x.born ≥ since)) (Array.filter (λe=>!seen.contains e.born) es))
def Aaf(a b X):Y0 a b (X.map (Jb n))=(Y0 a b X).map (yd (Jb n)):=by unfold Y0;rw[Us (λe=>!b.contains e.3) (λ_=>rfl),Us (λx=>decide (x.3<a)) (λ_=>rfl),Us (λx=>decide (x.3 ≥ a)) (λ_=>rfl),N8];generalize Array.filter (λx=>decide (x.3<a)) (Array.filter (λe=>!b.contains e.3) X)=A;generalize Array.filter (λx=>decide (x.3 ≥ a)) (Array.filter (λe=>!b.contains e.3) X)=B;split<;>simp[dQ,cY]
def VY{r}(Y:H r)(m a C b X):Df H P n (A2 n)
  (Go.choose (.mapNext (Y0 a b X).size) >>= λc=>match (Y0 a b X)[c]? with
   | some (je e)=>Go.setObj r (.mapIter (je m) a (b.push e.born) C) >>= λ_=>th (.tuple #[.bool jz,e.key,e.val])
   | some zt=>th (.tuple #[.bool vy])
   | none=>nh "Next: no such candidate")
  (Go.choose (.mapNext (Y0 a b (X.map (Jb n))).size) >>= λc=>match (Y0 a b (X.map (Jb n)))[c]? with
   | some (je e)=>Go.setObj (sh n r) (.mapIter (je (sh n m)) a (b.push e.born) C) >>= λ_=>th (.tuple #[.bool jz,e.key,e.val])
   | some zt=>th (.tuple #[.bool vy])
   | none=>nh "Next: no such candidate"):=by rw[Aaf,hQ];refine Rf.bind (Rf.choose _) λc=>?_;simp only[id];rw[aM];cases(Y0 a b X)[c]? with| none=>exact Rf.stuck| some e=>cases e with| none=>exact Rf.pure Ae| some e=>exact Rf.bind (Rf.setObj (o:=.mapIter (je m) a (b.push e.3) C) trivial Ape iW r Y) λ_=>Rf.pure (by simp[Jb])
def Akx(x d t):I H P n (Z n) (Instr.next x d t) (Instr.next (Z n x) d t):=by unfold Instr.next;cases x with|pointer b=>(rw[A8];cases b with|none=>exact Y.stuck|some b=>obtain⟨c,o,s⟩:=b;cases o with|succ o=>exact Y.stuck|zero=>dsimp only[aI,Ew];refine Y.getObjThen c (λo _=>?_) Aiz;cases o with|stringIter s i=>(simp[Dr];cases d with|false=>exact Y.stuck|true=>exact Y.ite (Y.bind (Y.setObj (o:=.stringIter s _) trivial Ape iW c (.inr iW)) λ_=>Y.pure O5) (Y.pure j))|mapIter r f g e=>(simp only[Dr];cases d with|true=>cases r<;>exact Y.stuck|false=>cases r with|none=>exact Y.pure j|some r=>dsimp only[aI];refine Y.getObjThen r (λo _=>?_) Aiz;cases o with|map a C=>simp only[Dr];(have R:(a.map (Jb n)).all (λx=>decide (x.3 ≥ e))=a.all (λx=>decide (x.3 ≥ e)):=by rw[←Array.all_toList,←Array.all_toList,bS,List.all_map];rfl);rw[N8,R];exact Y.ite Y.unsupBind (VY (.inl (.inr iW)) r f C g a)|_=>exact Y.stuck)|_=>exact Y.stuck)|_=>exact Y.stuck
end
section
variable {d:Type} {P:jd} {H:iG}
def Akw(x y):I H P n (Z n) (yt x y) (yt (Z n x) (Z n y)):=by cases x with|int k a=>exact I1f|float k a=>(cases y with|float q b=>rw[B7,B7];unfold yt;exact Jdf|pointer b=>(cases b<;>first|exact Y.unsup|exact Y.stuck)|_=>exact Y.stuck)|string a=>exact Rqu|pointer a=>(cases a<;>cases y<;>first|exact Y.unsup|exact Y.stuck|(rename_i b;cases b<;>first|exact Y.unsup|exact Y.stuck))|_=>cases y<;>first|exact Y.stuck|exact Y.unsup|(rename_i b;cases b<;>first|exact Y.unsup|exact Y.stuck)
def Akv(x y):I H P n (Z n) (py x y) (py (Z n x) (Z n y)):=by cases x with|int k a=>exact I1f|float k a=>(cases y with|float q b=>rw[B7,B7];unfold py;exact Jdf|pointer b=>(cases b<;>first|exact Y.unsup|exact Y.stuck)|_=>exact Y.stuck)|string a=>exact Rqu|pointer a=>(cases a<;>cases y<;>first|exact Y.unsup|exact Y.stuck|(rename_i b;cases b<;>first|exact Y.unsup|exact Y.stuck))|_=>cases y<;>first|exact Y.stuck|exact Y.unsup|(rename_i b;cases b<;>first|exact Y.unsup|exact Y.stuck)
theorem EJ{f g:E->E->Sem E}(h:∀x y,I H P n (Z n) (f x y) (g (Z n x) (Z n y))):∀(l:iK)x,I H P n (Z n) (l.foldlM f x) ((l.map (Z n)).foldlM g (Z n x))
 |[],x=>Y.pure r|y::l,x=>by exact Y.bind (h x y) λz=>EJ h l z
def Aom(L t)(X:iJ):I H P n (Z n) (vz L t X) (vz L t (X.map (Z n))):=by unfold vz;rw[bS];cases X.1 with|nil=>exact Y.stuck|cons x l=>exact EJ Akw l x
def Aol(L t)(X:iJ):I H P n (Z n) (jy L t X) (jy L t (X.map (Z n))):=by unfold jy;rw[bS];cases X.1 with|nil=>exact Y.stuck|cons x l=>exact EJ Akv l x
def Afs(P:jd)(ts:Array uy):Bool:=match ts[0]? with
 |some t=>match P.underlying t with|some (.chan _ _)=>vy|_=>jz
 |none=>jz
def Aok(L b)(X:iJ)(K:Afs P L=jz):I H P n (Z n) (ie L b X) (ie L b (X.map (Z n))):=by unfold ie;rw[aM];rw[Afs]at K;cases R:L[0]? with|none=>exact Rf.stuck|some t=>cases X[0]? with|none=>exact Rf.stuck|some x=>dsimp only[aI];refine Rf.underlyingIn t λd y=>?_;rw[R]at K;dsimp only at K;rw[y]at K;cases d with|string=>(cases x<;>first|exact Rf.stuck|(rw[Bj];exact Rf.pure O5))|array l e=>exact Rf.pure O5|pointer e=>exact Mrf|slice e=>(cases x<;>first|exact Rf.stuck|(rw[Br];exact Rf.pure O5))|map k e=>(cases x with|map r=>(rw[Dc];cases r with|none=>exact Rf.pure O5|some r=>refine Rf.getObjThen r (λo _=>?_) Aiz;cases o with|map a C=>simp[Dr];exact Rf.pure O5|_=>exact Rf.stuck)|_=>exact Rf.stuck)|chan Y e=>cases K|_=>exact Rf.stuck
def Aoj(L a)(X:iJ)(K:Afs P L=jz):I H P n (Z n) (xl L a X) (xl L a (X.map (Z n))):=by unfold xl;rw[aM];rw[Afs]at K;cases R:L[0]? with|none=>exact Rf.stuck|some t=>cases X[0]? with|none=>exact Rf.stuck|some x=>dsimp only[aI];refine Rf.underlyingIn t λd y=>?_;rw[R]at K;dsimp only at K;rw[y]at K;cases d with|array l e=>exact Rf.pure O5|pointer e=>exact Mrf|slice e=>(cases x<;>first|exact Rf.stuck|(rw[Br];exact Rf.pure O5))|chan Y e=>cases K|_=>exact Rf.stuck
end
def CL:List String:=["internal/bytealg.CountString", "internal/bytealg.IndexByteString", "internal/bytealg.IndexString", "internal/bytealg.abigen_runtime_cmpstring"]
def GW(P:jd)(f:mf):Bool:=
 match P.funcs[f]? with
 | some fn=>fn.body.isNone && fn.origin == "" && CL.contains fn.name
 | none=>vy
section
variable {d:Type} {P:jd} {H:iG}
theorem Wz:∀k(a:uw)(D:iF),I H P n id (vn a k D) (vn (Ew n a) k D)
 |0,_,_=>Y.pure r|k+1,a,D=>by refine Y.bind (Y.load a _) λv=>?_;cases v with|int t i=>(rw[B0];cases t<;>first|exact Y.stuck|(exact Wz k _ _))|_=>exact Y.stuck
theorem Kv(v):I H P n id (kr v) (kr (Z n v)):=by cases v with|string s=>rw[Bj];exact Y.pure r|slice a l c=>(rw[Br];cases a with|none=>exact Y.pure r|some a=>exact Wz _ _ _)|_=>exact Y.stuck
def JJ(x):I H P n id (y9 x) (y9 (Z n x)):=by exact Bga
def Acd(V:iJ):I H P n (Z n) (yz V) (yz (V.map (Z n))):=by obtain⟨l⟩:=V;rw[cD];obtain _|⟨x,_|⟨y,_|⟨z,l⟩⟩⟩:=l;exact Y.stuck;exact Y.stuck;exact Y.bind (Kv x) λ_=>Y.bind (JJ y) λ_=>Y.pure O5;exact Y.stuck
def GC(V:iJ):I H P n (Z n) (y7 V) (y7 (V.map (Z n))):=by obtain⟨l⟩:=V;rw[cD];obtain _|⟨x,_|⟨y,_|⟨z,l⟩⟩⟩:=l;exact Y.stuck;exact Y.stuck;refine Y.bind (Kv x) λa=>Y.bind (JJ y) λc=>?_;simp[id];split<;>exact Y.pure O5;exact Y.stuck
def GB(p:n.Fix P.globals.size)(s):I H P n (Ew n) (Go.globalAddr s) (Go.globalAddr s):=by apply Y.programIn;cases h:P.globals.findIdx? _ with|none=>exact Y.stuck|some g=>(have G:g<P.globals.size:=by have:=Array.findIdx?_eq_some_iff_getElem.1 h;exact this.1);exact Y.pure (by simp[Ew,show sh n g=g from p g G])
def Ace(p:n.Fix P.globals.size)(V:iJ):I H P n (Z n) (pk V) (pk (V.map (Z n))):=by obtain⟨l⟩:=V;rw[cD];obtain _|⟨x,_|⟨y,_|⟨z,l⟩⟩⟩:=l;exact Y.stuck;exact Y.stuck;refine Y.bind (Kv x) λa=>Y.bind (Kv y) λb=>?_;refine Y.bind (Y.bind (GB p _) λa=>Y.bind (Y.load _ _) λv=>Y.asInt v) λm=>?_;simp[id];refine Y.ite Y.unsupBind (Y.ite Y.unsupBind ?_);split<;>exact Y.pure O5;exact Y.stuck
def RL(V:iJ):I H P n (Z n) (uk V) (uk (V.map (Z n))):=by obtain⟨l⟩:=V;rw[cD];obtain _|⟨x,_|⟨y,_|⟨z,l⟩⟩⟩:=l;exact Y.stuck;exact Y.stuck;exact Y.bind (Kv x) λ_=>Y.bind (Kv y) λ_=>Y.pure O5;exact Y.stuck
def XX(p:n.Fix P.globals.size){fn}(O:fn.origin = "")(z:fn.name∈CL):Extern.findNext fn=zt∧(fn.name == "runtime.NumGoroutine")=vy∧∃e,Extern.find fn=je e∧∀V,Df H P n (A2 n) (e V) (e (V.map (A2 n))):=by simp[CL,bM,dR,or_false]at z;rw[Extern.findNext,Extern.find];obtain h|h|h|h:=z <;> rw[O,h];exact⟨Ab,Ab,yz,Ab,Acd⟩;exact⟨Ab,Ab,y7,Ab,GC⟩;exact⟨Ab,Ab,pk,Ab,Ace p⟩;exact⟨Ab,Ab,uk,Ab,RL⟩
def Arc(n:Ren):Except (Option Bool) (uy×Option E)->Except (Option Bool) (uy×Option E)
 |.error e=>.error e
 |.ok (t,x)=>.ok (t,x.map (Z n))
theorem J9:∀l(t:uy)x,I H P n (Arc n) (Go.followBlind l t x) (Go.followBlind l t (x.map (Z n)))
 |[],t,x=>Y.pure r|s::l,t,x=>by refine Y.bind (Y.underlying _) λd=>?_;simp[id];cases d with|struct L=>(dsimp only;cases L[s.2]? with|none=>exact Y.stuck|some f=>cases s.3 with|true=>(cases x with|none=>exact Y.pure r|some x=>cases x with|pointer a=>(rw[aI,A8];cases a with|none=>exact Y.pure r|some a=>exact J9 l f.2 zt)|_=>exact Y.stuck)|false=>cases x with|none=>exact J9 l f.2 zt|some x=>cases x with|agg cs=>rw[aI,Cg];exact Y.bind (Y.part _ _ _) λy=>J9 l f.2 _|_=>exact Y.stuck)|_=>exact Y.stuck
def Zp:∀k(t:uy)v(s:String),Df H P n id (Go.nilAhead k t v s) (Go.nilAhead k t (Z n v) s)
 |0,_,_,_=>Y.pure iW|k+1,t,v,s=>by refine Y.bind (Y.typeInfo t) λi=>?_;simp[id];cases i.10.find? _ with|none=>exact Y.stuck|some m=>refine Y.bind (J9 m.3.1 t (je v)) λr=>?_;cases r with|error e=>exact Y.pure iW|ok y=>have ⟨j,x⟩:=y;simp[Arc];cases m.4 with|none=>(cases x with|none=>exact Y.pure iW|some x=>cases x with|iface S U=>rw[aI,Ck];exact Zp k S U s|nilIface=>rw[aI,By];exact Y.pure iW|_=>exact Y.stuck)|some I=>have ⟨f,b⟩:=I;cases b with|true=>exact Y.pure iW|false=>refine Y.bind (Y.underlying j) λd=>?_;cases d with|pointer e=>(cases x with|none=>exact Y.pure iW|some x=>cases x with|pointer a=>rw[aI,A8];cases a<;>exact Y.pure iW|_=>simp[aI,Cu,B0,B7,B3,Bj,B5,By,Br,Dc,Dg,Ct,Ck,Cg,Ci];exact Y.pure iW)|_=>exact Y.pure iW
end
def Ss:E->Bool
 |.pointer zt|.slice zt _ _|.map zt|.chan zt|.bool _|.int _ _|.float _ _|.complex _ _ _|.string _|.nilFunc|.nilIface=>jz
 |_=>vy
def AO:E->Bool
 |.agg cs=>cs.all Ss
 |.tuple cs=>cs.all Ss
 |v=>Ss v
def KU:E->Bool
 |.agg cs=>cs.all AO
 |.tuple cs=>cs.all AO
 |v=>Ss v
def Q7{v}(h:Ss v=jz):Z n v=v:=by cases v with|pointer a=>(cases a with|none=>simp|some a=>cases h)|slice a l c=>(cases a with|none=>simp|some a=>cases h)|map a=>(cases a with|none=>simp|some a=>cases h)|chan a=>(cases a with|none=>simp|some a=>cases h)|_=>first|(simp;done)|cases h
def Y2{cs:iJ}(h:cs.all Ss=jz):cs.map (Z n)=cs:=by apply bZ;intro i;rw[aM];cases V:cs[i]? with|none=>rfl|some v=>rw[dC]at h;exact aK je (Q7 (h v (cN V)))
def OJ{v}(h:AO v=jz):Z n v=v:=by cases v with|agg cs=>rw[Cg,Y2 h]|tuple cs=>rw[Ci,Y2 h]|_=>exact Q7 h
def Y3{cs:iJ}(h:cs.all AO=jz):cs.map (Z n)=cs:=by apply bZ;intro i;rw[aM];cases V:cs[i]? with|none=>rfl|some v=>rw[dC]at h;exact aK je (OJ (h v (cN V)))
def Y4{v}(h:KU v=jz):Z n v=v:=by cases v with|agg cs=>rw[Cg,Y3 h]|tuple cs=>rw[Ci,Y3 h]|_=>exact Q7 h
def E4(G:Nat):jf->Bool
 |.tmp _|.func _=>jz
 |.const v=>KU v
 |.global g=>decide (g<G)
def E7(n):Z n re=re:=by simp[re]
def CW(a:iJ)(t):(a.map (Z n)).getD t re=Z n (a.getD t re):=by rw[cL,cL,aM];cases a[t]? with|none=>exact(E7 n).symm|some v=>rfl
def Rg{G}(p:n.Fix G)(X V:s9)(R:V.tmps=X.tmps.map (Z n))(x)(h:E4 G x=jz):V.eval x=Z n (X.eval x):=by cases x with|tmp t=>rw[Frame.eval,R];exact CW _ _|const v=>exact(Y4 h).symm|global g=>show vp _=Z n (.pointer (je (iQ g)));simp[Ew,show sh n g=g from p g (by simpa[E4] using h)]|func f=>show Value.func _ #[] #[]=Z n (.func (.func f) #[] #[]);simp[Nv]
def Ls(n:Ren):tj->tj
 |.value v=>.value (Z n v)
 |.enter f as=>.enter f (as.map (Z n))
 |x=>x
def V3:jf->Bool
 |.const (.pointer zt)=>jz
 |_=>vy
def eqR(P:jd)(t:uy)(x y:jf):Bool:=
 CK P 6 t||((match P.underlying t with|some (.pointer _)=>jz|_=>vy)&&(V3 x||V3 y))
def Apu(P:jd)(ts:Array uy):Bool:=match ts[1]? with
 |some xt=>match P.underlying xt with|some (.int _)=>vy|_=>jz
 |none=>jz
def Tt(P:jd)(S:mf->Bool)(c:Call):Bool:=
 c.args.all (E4 P.globals.size)&&match c.callee with
 |.builtin .append=>Apu P c.argTypes
 |.builtin .len|.builtin .cap=>Afs P c.argTypes
 |.builtin .copy|.builtin .min|.builtin .max|.builtin .clear=>jz
 |.builtin .delete=>match c.argTypes[0]? with|some t=>LZ P t|none=>jz
 |.value (.func f)=>S f||GW P f
 |_=>vy
def fnR:Fn->Bool
 |.func _=>jz
 |_=>vy
def opR(P:jd)(S:mf->Bool)(o:xe):Bool:=
 let k:=E4 P.globals.size
 match o.op with
 |.move x|.assign x|.box _ x|.load _ x|.nilCheck x|.unOp _ _ x|.fieldAddr _ x _|.field _ x _|.extract x _|.range _ x|.next x _|.entry x=>k x
 |.pick c a b=>k c&&k a&&k b
 |.alloc _=>jz
 |.build _ ps|.buildSlice _ _ ps=>ps.all λx=>k x.2
 |.store _ a x|.makeSlice _ a x|.indexAddr _ a x|.index _ a x=>k a&&k x
 |.makeFunc f a b=>fnR f&&a.all k&&b.all k
 |.slice _ x lo hi mx=>k x&&lo.all k&&hi.all k&&mx.all k
 |.binOp op t x y _=>k x&&k y&&(match op with|.eql|.neq=>eqR P t x y|_=>jz)
 |.convert s d x=>k x&&Aej P s d
 |.call c=>Tt P S c
 |.makeMap _ r=>r.all k
 |.lookup t x i _=>k x&&k i&&LZ P t
 |.mapUpdate t a b c|.insert t a b c=>k a&&k b&&k c&&LZ P t
 |_=>vy
section
variable {P:jd}
theorem Et{s t}(h:Y P n (Z n) s t):Y P n (Ls n) (s >>= λx=>th (lj x)) (t >>= λx=>th (lj x)):=Y.bind h λ_=>Y.pure r
theorem MO{s t:Sem Unit}(h:Y P n id s t):Y P n (Ls n) (s >>= λ_=>th Next.skip) (t >>= λ_=>th Next.skip):=Y.bind h λ_=>Y.pure r
def IX{a:jf->E}(B:∀x,E4 P.globals.size x=jz->F x=Z n (a x))(b:Array (Nat×jf))(h:(b.all λx=>E4 P.globals.size x.2)=jz):(b.map λx=>(x.1,F x.2))=(b.map λx=>(x.1,a x.2)).map λx=>(x.1,Z n x.2):=by rw[Array.map_map];grind
def Li{a:jf->E}(B:∀x,E4 P.globals.size x=jz->F x=Z n (a x))(V:Array jf)(h:V.all (E4 P.globals.size)=jz):V.map F=(V.map a).map (Z n):=by grind
def BA{a:jf->E}(B:∀x,E4 P.globals.size x=jz->F x=Z n (a x))(b:Option jf)(h:b.all (E4 P.globals.size)=jz):b.map F=(b.map a).map (Z n):=by cases b with|none=>rfl|some x=>grind
end
section
variable {P:jd}
def RH(f)(a b:iJ)(h:fnR f=jz):Y P n (Z n) (Instr.makeFunc f a b) (Instr.makeFunc f (a.map (Z n)) (b.map (Z n))):=by cases f with|func g=>exact Y.pure (by simp[Nv])|_=>cases h
def Zn(p:n.Fix P.globals.size){S:mf→Bool}(H:∀f,S f=jz→∃fn c,P.funcs[f]? = je fn∧(fn.name == "runtime.NumGoroutine")=vy∧fn.body=je c)(f)(V:iJ)(h:(S f || GW P f)=jz):Rf P n (Ls n) (xn f V) (xn f (V.map (A2 n))):=by rw[xn];apply Rf.programIn;rw[cZ]at h;obtain h|h:=h;obtain⟨fn,c,C,J,T⟩:=H f h;(have D:fn.9.isNone=vy:=by rw[T];rfl);rw[C];dsimp only;rw[J,D];exact Rf.pure iW;rw[GW]at h;cases G:P.2[f]? with| none=>rw[G]at h;cases h| some fn=>rw[G]at h;simp[aQ]at h;obtain⟨⟨D,O⟩,z⟩:=h;obtain⟨C,J,e,T,q⟩:=XX (P:=P) (n:=n) p (fn:=fn) (by simpa using O) (by simpa using z);dsimp only;rw[J,D,C,T];exact Rf.bind (Rf.mark trivial) λ_=>Rf.bind (q V) λ_=>Rf.pure iW
def RJ(x):Rf P n (Ls n)
  (match x with
   | .pointer zt|.nilIface|.nilFunc=>jh .nilDeref
   | .func (.method d) e c=>
    match (e[0]? : Option p8) with
    | some .nilIface=>jh .nilDeref
    | some (.iface t w)=>do
     if(←nilAhead ((←program).types.size+Made.depth) t w d) != je vy then
      unsupported (.noEntry "op/nilCheck.the method's receiver behind this interface value is a nil pointer, or cannot be seen to be none, and the arguments act or may panic (ledger 612)")
     pure (.value (.func (.method d) e c))
    | _=>pure (.value (.func (.method d) e c))
   | x=>pure (.value x))
  (match A2 n x with
   | .pointer zt|.nilIface|.nilFunc=>jh .nilDeref
   | .func (.method d) e c=>
    match (e[0]? : Option p8) with
    | some .nilIface=>jh .nilDeref
    | some (.iface t w)=>do
     if(←nilAhead ((←program).types.size+Made.depth) t w d) != je vy then
      unsupported (.noEntry "op/nilCheck.the method's receiver behind this interface value is a nil pointer, or cannot be seen to be none, and the arguments act or may panic (ledger 612)")
     pure (.value (.func (.method d) e c))
    | _=>pure (.value (.func (.method d) e c))
   | x=>pure (.value x)):=by cases x with| pointer a=>(rw[A8];cases a with| none=>exact Rf.rt| some a=>exact Rf.pure (by simp[Ls]))| nilIface=>exact Rf.rt| nilFunc=>exact Rf.rt| func f a b=>(rw[Ct];cases f with| method d=>(simp only[Nv];rw[aM];have Q:Rf P n (Ls n) (pure (lj (.func (.method d) a b))) (pure (lj (.func (.method d) (a.map (A2 n)) (b.map (A2 n))))):=Rf.pure (by simp[Ls,Nv]);cases a[0]? with| none=>exact Q| some v=>cases v with| nilIface=>exact Rf.rt| iface t w=>rw[aI,Ck];refine Rf.bind Rf.program λp=>Rf.bind (Zp _ t w d) λr=>?_;simp only[id];exact Rf.ite Rf.unsupBind Q| _=>simp[aI,Cu,B0,B7,B3,Bj,B5,Br,Dc,Dg,Ct,Cg,Ci,A8];exact Q)| _=>simp[Nv];exact Rf.pure (by simp[Ls,Nv]))| _=>simp[Cu,B0,B7,B3,Bj,B5,By,Br,Dc,Dg,Ct,Ck,Cg,Ci,A8];exact Rf.pure (by simp[Ls])
def RE(p:n.Fix P.globals.size){a:jf->E}(M:∀v,a (.const v)=v){x y}(h:eqR P t x y=jz):Y P n id (oh t (a x) (a y)) (oh t (Z n (a x)) (Z n (a y))):=by rw[eqR,cZ]at h;obtain h|h:=h;exact Y.equal p h _ _;rw[aQ,cZ]at h;have ⟨C,J⟩:=h;(have b:∀{z},V3 z=jz->a z=.pointer zt:=λ{z} N=>by unfold V3 at N;grind);cases r:P.underlying t with|none=>grind|some u=>rw[r]at C;(cases u<;>first|contradiction|skip);exact Y.equalNil r (J.imp b b)
def Aha(N:Ie P)(L t)(X:iJ):Y P n (Z n) (yl L t X) (yl L t (X.map (Z n))):=by unfold yl;rw[aM];cases L[0]? with|none=>exact Y.stuck|some d=>cases X[0]? with|none=>exact Y.stuck|some x=>dsimp only[aI];refine Y.bind (Y.underlying d) λu=>?_;simp[id];have e:Z n (.tuple #[])=.tuple #[]:=j;cases x with|map r=>(rw[Dc];cases r with|none=>exact Y.pure e.symm|some r=>refine Y.getObjThen r (λo _=>?_) Aiz;cases o with|map a C=>have:=Y.setObj (P:=P) (n:=n) (H:=λi=>iV i∨i=r) (o:=.map #[] C) trivial Ape iW r (.inr iW);simp only[Dr,Array.map_empty]at this;exact Y.bind this λ_=>Y.pure e.symm|_=>exact Y.stuckBind)|slice b l f=>(rw[Br];cases b with|none=>exact Y.pure e.symm|some b=>cases l with|zero=>exact Y.pure e.symm|succ l=>cases u with|slice R=>refine Y.zeroCellsOf N R λz c=>?_;have:=Y.storeCells (P:=P) (n:=n) (H:=λ_=>False) b (Builtin.zeroCells z.cells (l+1)).1 0;rw[←bS,Ud (Sr c)]at this;exact Y.bind this λ_=>Y.pure e.symm|_=>exact Y.stuckBind)|_=>simp[Cu,B0,B7,B3,Bj,B5,By,Dg,Ct,Ck,Cg,Ci,A8];exact Y.stuckBind
def Ard(p:n.Fix P.globals.size)(N:Ie P)(H:∀f,S f=jz→∃u c,P.funcs[f]? = je u∧(u.name == "runtime.NumGoroutine")=vy∧u.body=je c){a F}(I:∀g,a (.func g)=.func (.func g) #[] #[])(M:∀v,a (.const v)=v)(B:∀x,E4 P.globals.size x=jz→F x=A2 n (a x))(h:opR P S o=jz):Rf P n (Ls n) (lx a o) (lx F o):=by
 rw[opR]at h;unfold lx;generalize o.2=q at h;cases q <;> first|contradiction|dsimp only at h⊢
 case move x=>exact Rf.pure (by rw[B x h];rfl)
 case assign x=>exact Rf.pure (by rw[B x h];rfl)
 case pick c b d=>simp[aQ]at h;rw[B c h.1.1,B b h.1.2,B d h.2];refine Rf.bind (Rf.asBool _) λd=>Rf.pure ?_;simp[id];split <;> rfl
 case alloc t=>have:=Et (Rf.alloc (P:=P) (n:=n) N t jz (.tuple #[]));rwa[show A2 n (.tuple #[])=.tuple #[] by simp]at this
 case box t x=>rw[B x h];exact Et (Rf.box _ _)
 case build t i=>rw[IX B i h];exact Et (Rf.build N _ _)
 case buildSlice t l i=>rw[IX B i h];exact Et (Rf.buildSlice N _ _ _)
 case load t x=>rw[B x h];exact Et (Rf.loadAt _ _)
 case store t b x=>simp[aQ]at h;rw[B b h.1,B x h.2];exact MO (Rf.storeAt _ _ _)
 case nilCheck x=>rw[B x h];exact RJ _
 case binOp q t x y A=>simp[aQ]at h;rw[B x h.1.1,B y h.1.2];refine Et (Rf.bind (Rf.eqGuard _ _ _ _ _ _) λ_=>Rf.binOp p _ _ _ _ λD=>?_);obtain rfl|rfl:=D;exact RE p M h.2;exact RE p M h.2
 case unOp q t x=>rw[B x h];exact Et (Rf.unary _ _)
 case convert s e x=>simp[aQ]at h;rw[B x h.1];exact Et (Rf.convert _ _ _ h.2)
 case makeFunc f b d=>simp only[aQ]at h;rw[Li B b h.1.2,Li B d h.2];exact Et (RH _ _ _ h.1.1)
 case makeMap t r=>rw[BA B r h];exact Et (VX _ _)
 case makeSlice t b x=>simp[aQ]at h;rw[B b h.1,B x h.2];exact Et (Rf.makeSlice N _ _ _)
 case slice t x z V C=>simp[aQ]at h;rw[B x h.1.1.1,BA B z h.1.1.2,BA B V h.1.2,BA B C h.2];exact Et (Rf.sliceAt _ _ _ _ _)
 case fieldAddr s x f=>rw[B x h];exact Et (Rf.fieldAt _ _ _)
 case field s x f=>rw[B x h];exact Et (Rf.field _ _ _)
 case indexAddr t b x=>simp[aQ]at h;rw[B b h.1,B x h.2];exact Et (Rf.indexAt _ _ _)
 case index t b x=>simp[aQ]at h;rw[B b h.1,B x h.2];exact Et (Rf.index _ _ _)
 case lookup t x j d=>simp[aQ]at h;rw[B x h.1.1,B j h.1.2];exact Et (Acb p N _ _ _ _ h.2)
 case mapUpdate t b d c=>exact F7p
 case insert t b d c=>exact F7p
 case range t x=>rw[B x h];exact Et (Ahc _ _)
 case next x d=>rw[B x h];exact Et (Akx _ _ _)
 case entry x=>rw[B x h];exact Et (Ahb _)
 case extract x j=>rw[B x h];exact Et (Rf.extract _ _)
 case call c=>rw[Tt,aQ]at h;obtain⟨w,h⟩:=h;unfold ly;rw[Li B c.2 w];cases M:c.1 with| builtin d=>(rw[M]at h;show Rf P n (Ls n) (vb (.builtin d c.3 o.3 _) _) (vb (.builtin d c.3 o.3 _) _);unfold vb builtin;cases d <;> first|contradiction|exact Et (Rf.append N _ _ _ λk Z m E=>by simp[Apu,Z,E]at h)|exact Et (Rf.copy _ _ _)|exact Et (Aok _ _ _ h)|exact Et (Aoj _ _ _ h)|exact Et (Aom _ _ _)|exact Et (Aol _ _ _)|exact Et (Aha N _ _ _)|exact Et (Aca p _ _ _ λG L=>by dsimp only at h;rwa[L]at h))| value f=>(rw[M]at h;cases f with| func g=>dsimp only at h;(have W:F (.func g)=.func (.func g) #[] #[]:=by rw[B (.func g) iW,I g];simp[Nv]);have J:=Zn (P:=P) (n:=n) p H g (c.2.map a) h;show Rf P n (Ls n) (pt (a (.func g)) (c.2.map a) >>= λe=>vb e.1 e.2) (pt (F (.func g)) ((c.2.map a).map (A2 n)) >>= λe=>vb e.1 e.2);rw[I g,W];show Rf P n (Ls n) (xn g (#[]++c.2.map a++#[])) (xn g (#[]++(c.2.map a).map (A2 n)++#[]));exact Ewc| _=>cases h)| invoke r K=>rw[M]at h;cases h
end
def Dh(n:Ren):jc->jc
 |.inRangeFunc l=>.inRangeFunc (sh n l)
 |.endRangeFunc l=>.endRangeFunc (sh n l)
 |.call d w r s=>.call (Qh n d) w r (s.map (Z n))
 |.extern row args=>.extern row (args.map (Z n))
 |i=>i
def Kh(n:Ren):FrameMode->FrameMode
 |.panicking c=>.panicking (c.map λx=>{ x with v:=Z n x.v })
 |m=>m
def Bp(n:Ren)(fr:s9):s9:={ fr with tmps:=fr.tmps.map (Z n),todo:=fr.todo.map (Dh n),defers:=fr.defers.map (Qh n),mode:=Kh n fr.mode,roundOf:=fr.7.map (sh n) }
def Bt(n:Ren)(g:gy):gy:={ g with frame:=Bp n g.frame,callers:=g.callers.map (Bp n) }
theorem E6(n X cs):Bt n (G X cs)=G (Bp n X) (cs.map (Bp n)):=r
section
variable {P:jd}
def Cy(h:X.mode=.run):(Bp n X).mode=.run:=by simp[Bp,h,Kh]
def MJ(h:X.mode=.returning):(Bp n X).mode=.returning:=by simp[Bp,h,Kh]
def Il(a:iJ)(d v):(a.map (Z n)).setIfInBounds d (Z n v)=(a.setIfInBounds d v).map (Z n):=(Array.map_setIfInBounds ..).symm
def Nc(X v):(Bp n X).finish (Z n v)=Bp n (X.finish v):=by have ⟨u,a,b,c,f,kind,Y⟩:=X;unfold rh Bp;cases b with|nil=>rfl|cons x k=>cases x with|inRegion g l=>(cases l with|nil=>rfl|cons i l=>simp[bF,Dh];cases(g[i]?).bind _ with|none=>rfl|some d=>simp only[Il])|call d w r s=>simp[Dh]|extern r e=>simp[Dh]|_=>rfl
def P4(X):(Bp n X).finish re=Bp n (X.finish re):=by have:=Nc (n:=n) X re;rwa[E7]at this
def Gi(g)(a:iJ):yw g (a.map (Z n))=yw g a:=by funext j;unfold yw;cases(g[j]?).bind _ with|none=>rfl|some d=>simp[dP,aM];cases a[d]? with|none=>rfl|some v=>cases v<;>simp
def P1(a):∀k:List jc,exitTo a (k.map (Dh n))=(exitTo a k).map (List.map (Dh n))
 |[]=>rfl|x::k=>by cases x with|inBlock i=>simp[bF,Dh,exitTo];split;rfl;exact P1 a k|_=>exact P1 a k
def Uv(l):∀k:List jc,gotoIn l (k.map (Dh n))=(gotoIn l k).map (List.map (Dh n))
 |[]=>rfl|x::k=>by cases x with|inScope b=>(simp[bF,Dh,gotoIn];cases findLabel b l with|none=>exact Uv l k|some r=>rfl)|_=>exact Uv l k
def Mp(f)(a:iJ)(W):ur P f (a.map (Z n)) W=Bp n (ur P f a W):=by unfold ur;cases P.2[f]? with|none=>simp[Bp,Kh,Dh]|some u=>cases D:u.9 with|none=>simp[Bp,Kh,Dh,E7,D]|some c=>simp[Bp,Kh,Dh,E7,D]
end
structure H0(P main J g v)(g':gy)(v'):Prop where
 run:g'.status=.running
 plain:Plain v'
 frame:∃es,Dd v v' es/\∀e∈es,Ig v' e/\Gp J e
 all:∀n(t:Nat)w,n.Fix P.globals.size->iZ v'.1<=t->Sm n t J v w->∃(w':qi)(es fs:Array tw),ui P main (Bt n g) w=.go (Bt n g') w' es/\Sm n t J v' w'/\Dd w w' (fs.map (Lr n))/\(∀e∈fs,Ig v' e/\Gp J e)/\∀e∈es,e∈fs.map (Lr n)
section
variable {P:jd} {J:iH}
def JS{g}(Y:R.status=.running)(Q:Plain v)(h:∀n(w:qi),n.Fix P.globals.size->ui P e (Bt n g) w=.go (Bt n R) w):H0 P e J g v R v:=
 ⟨Y,Q,⟨#[],.refl _ _,j⟩,λn t w p a s=>⟨w,#[],#[],h n w p,s,.refl _ _,j,j⟩⟩
def EW{g}(Y:R.status=.running)(Q:Plain v)(h:∀n(w:qi),n.Fix P.globals.size->w.tape=v.tape->w.drawn=v.drawn->ui P e (Bt n g) w=.go (Bt n R) { w with drawn:=w.drawn+1 }):H0 P e J g v R { v with drawn:=v.drawn+1 }:=
 ⟨Y,Q,⟨#[],P5 _ _,j⟩,λn t w p a s=>⟨_,#[],#[],h n w p s.tape s.drawn,s.drew,(P5 w _).mono j,j,j⟩⟩
def Bl(L:X.mode=.run):ui P e (G X cs) w=vk P e jz X cs zt w:=by unfold ui G;simp[L]
def Wi(P:jd)(fr:s9)(cs:List s9):tj->gy
 |.value x=>G (fr.finish x) cs
 |.enter f args=>G (ur P f args .normal) (fr::cs)
 |_=>G (fr.finish re) cs
def known:tj->Prop
 |.value _=>True
 |.skip=>True
 |.enter _ _=>True
 |_=>False
def Abn(n X cs)(h:known x):Wi P (Bp n X) (cs.map (Bp n)) (Ls n x)=Bt n (Wi P X cs x):=by (cases x<;>first|exact h.elim|skip);show G _ _=_;rw[Nc];rfl;show G _ _=_;rw[P4];rfl;show G _ _=_;rw[Mp];rfl
def Abo(X cs x):(Wi P X cs x).status=.running:=by cases x<;>rfl
def Sf{fr}(M:(fr.kind==yj)=vy)(I:∃g l k,fr.todo=.inRegion g l::k)(V:ui P e (G fr cs) w=stepG.apply P jz fr cs zt s w)(C:s.run P w=.ok x B)(Z:known x):ui P e (G fr cs) w=.go (Wi P fr cs x) B (seen P fr.fn (s.events P w #[])):=by have ⟨o,b,a,I⟩:=I;rw[V];(cases x<;>first|exact Z.elim|skip);all_goals simp[stepG.apply,qg,C,bV,M,I];simp[GStep.after,G,Wi]
def Ahx{t:Ren->Sem tj}(E:(fr.kind==yj)=vy)(I:∃c l d,fr.todo=.inRegion c l::d)(Q:Plain v)(Z:known x)(V:∀n(w:qi),n.Fix P.globals.size->ui P e (G (Bp n fr) (cs.map (Bp n))) w=stepG.apply P jz (Bp n fr) (cs.map (Bp n)) zt (t n) w)(b:∀n:Ren,n.Fix P.globals.size->Rf P n (Ls n) s (t n))(f:∃n:Ren,n.Fix P.globals.size)(Y:s.run P v=.ok x U)(W:∀a∈s.events P v #[],Gp J a):H0 P e J (G fr cs) v (Wi P fr cs x) U:=by have ⟨j,F⟩:=f;have ⟨i,h,k⟩:=(b j F).mono v x U Q Y;refine⟨Abo _ _ _,i,⟨_,h,λa N=>⟨k a N,W a N⟩⟩,λn u w p R m=>?_⟩;have ⟨B,C,g,T,y⟩:=(b n p).sim J u v w m Q W x U Y R;have ⟨o,q,r,I⟩:=I;refine⟨B,seen P fr.1 ((t n).events P w #[]),s.events P v #[],?_,T,by rwa[←g],λa N=>⟨k a N,W a N⟩,λa N=>?_⟩;have:=Sf (fr:=Bp n fr) E ⟨o,q,r.map (Dh n),by simp[Bp,I,Dh]⟩ (V n w p) C (by cases x<;>exact Z);rw[E6,this,Abn n fr cs Z];rfl;rw[←g];exact mem_seen N
end
structure Env where
 fn:mf->Prop
 reg:mf->Array p8->Prop
instance:CoeFun Env λ_=>mf->Prop:=⟨Env.fn⟩
def OkN(P:jd)(S:Env):tj->Prop
 |.value _=>True
 |.skip=>True
 |.enter f args=>S f/\S.reg f (ur P f args .normal).tmps
 |_=>False
def Ia(dst:Option Tmp)(v:E)(tmps:iJ):Array E:=match dst with|some d=>tmps.setIfInBounds d v|none=>tmps
structure Pl(P)(S:Env)(fn o):Prop where
 rf:∀n(fr:s9),n.Fix P.globals.size->S.reg fn fr.tmps->Rf P n (Ls n) (lx fr.eval o) (lx (Bp n fr).eval o)
 okn:∀(fr:s9) v x v',S.reg fn fr.tmps->Plain v->(lx fr.eval o).run P v=.ok x v'->OkN P S x
 put:∀tmps v,S.reg fn tmps->(∀t,o.op=.move (.tmp t)->v=re∨v=tmps.getD t re)->S.reg fn (Ia o.dst v tmps)
def SX(P:jd)(S:Env)(fn:mf):Code->Prop
 |.skip=>True
 |.region _ ops _=>∀(i:Nat)o,ops[i]?=je o->Pl P S fn o
 |.seq a b=>SX P S fn a/\SX P S fn b
 |.cond c a b=>(E4 P.globals.size c=jz/\SX P S fn a)/\SX P S fn b
 |.block _ b=>SX P S fn b
 |.loop b=>SX P S fn b
 |.rangeFunc _ _ _ _=>False
 |.exit _=>True
 |.scope b=>SX P S fn b
 |.label _=>True
 |.goto _=>True
 |.ret=>True
 |.refuse _=>False
def SY(P:jd)(S:Env)(fn:mf):jc->Prop
 |.code c=>SX P S fn c
 |.inBlock _=>True
 |.inLoop b=>SX P S fn b
 |.inScope b=>SX P S fn b
 |.inRegion ops _=>∀(i:Nat)o,ops[i]?=je o->Pl P S fn o
 |_=>False
structure Qt(P:jd)(S)(fr:s9):Prop where
 defers:fr.defers = []
 kind:fr.kind=.normal
 round:fr.7=zt
 fn:∃f,P.funcs[fr.fn]?=je f
 mode:fr.mode=.run∨fr.mode=.returning
 todo:fr.mode=.run->∀it∈fr.todo,SY P S fr.fn it
 reg:S.reg fr.fn fr.tmps
def NS(fr:s9)(v:E):Prop:=∀ops i rest k o t,fr.todo=.inRegion ops (i::rest)::k->ops[i]?=je o->o.op=.move (.tmp t)->v=re∨v=fr.tmps.getD t re
theorem Y9(X):NS X re:=λ_ _ _ _ _ _ _ _ _=>.inl r
def KJ(P:jd)(S:Env)(up:List s9):Prop:=∀c∈up,Qt P S c/\c.mode=.run/\∀y,NS c y
def XH(P:jd)(S:Env):Prop:=∀f,S f→∃fn c,P.funcs[f]? = je fn∧(fn.name == "runtime.NumGoroutine")=vy∧fn.body=je c∧SX P S f c
section
variable {P:jd} {S:Env}
theorem DV(H:XH P S)(I:S f)(a:iJ)(Y:S.reg f (ur P f a .normal).tmps):Qt P S (ur P f a .normal)/\(ur P f a .normal).mode=.run:=by have ⟨u,c,C,_,J,T⟩:=H f I;refine⟨⟨r,r,r,⟨u,C⟩,.inl r,λ_ l V=>?_,Y⟩,r⟩;simp[ur,C,J]at V;subst V;exact T
def Ae0{P g}(d:X.todo=.inRegion g (i::l)::k)(O:g[i]?=je o):(∀x w B,(lx X.eval o).run P w=.ok (.value x) B->NS X x)/\∀f b w B,(lx X.eval o).run P w=.ok (.enter f b) B->∀y,NS X y:=by (have n:∀{a} {F} {V} {q} {I},X.3=.inRegion a (F::V)::q->a[F]?=je I->I=o:=λh e=>by grind);refine⟨λx w B Y a F V q I t C J T=>?_,λf b w B Y y a F V q I t C J T=>?_⟩;obtain rfl:=n C J;rw[lx,T]at Y;simp[qz,pure]at Y;exact .inr Y.1.symm;obtain rfl:=n C J;rw[lx,T]at Y;simp[qz,pure]at Y
def Od(h:Qt P S X)(L:X.mode=.run)(v)(q:NS X v):Qt P S (X.finish v)/\(X.finish v).mode=.run:=by have R:=h.6 L;rw[rh];split;rename_i g i a k E;rw[E]at R;refine⟨⟨h.1,h.2,h.3,h.4,h.5,λ_ e V=>?_,?_⟩,L⟩;simp[bM]at V;obtain rfl|V:=V;exact R (.inRegion g (i::a)) j;grind;(cases O:g[i]? with|none=>simpa[O] using h.7|some o=>have T:=((R (.inRegion g (i::a)) j) i o O).3 X.2 v h.7 λt N=>q g i a k o t E O N;simp[ dP];cases y:o.1 with|none=>simpa only[Ia,y] using T|some d=>simpa only[Ia,y] using T);rename_i l k E;rw[E]at R;exact(R (.inRangeFunc l) j).elim;rename_i k E;rw[E]at R;exact(R .beginRound j).elim;rename_i d b r s k E;rw[E]at R;exact(R (.call d b r s) j).elim;rename_i r c k E;rw[E]at R;exact(R (.extern r c) j).elim;exact⟨h,L⟩
def FX{l}:∀{c B},SX P S u c->findLabel c l=je B->SX P S u B:=by intro c;induction c with|seq a b I C=>(intro B h e;simp[findLabel]at e;cases d:findLabel a l with|some r=>rw[d]at e;obtain rfl:=aC e;exact⟨I h.1 d,h.2⟩|none=>rw[d]at e;exact C h.2 e)|label V=>intro B h e;simp only[findLabel]at e;split at e;obtain rfl:=aC e;trivial;cases e|_=>intro B h e;simp[findLabel]at e
def Af8{l}:∀{k q},(∀a∈k,SY P S u a)->gotoIn l k=je q->∀a∈q,SY P S u a:=by intro k;induction k with|nil=>intro q _ e;simp[gotoIn]at e|cons x k O=>intro q h e;have E:∀a∈k,SY P S u a:=λa V=>h a (by simp[V]);cases x;(case inScope b=>simp[gotoIn]at e;cases D:findLabel b l with|none=>grind|some r=>rw[D]at e;obtain rfl:=aC e;have o:SX P S u b:=h (.inScope b) j;intro a V;simp[bM]at V;obtain rfl|rfl|V:=V;exact FX o D;exact o;exact E a V);all_goals (simp[gotoIn]at e;exact O E e)
def Af7{n}:∀{k q},(∀l∈k,SY P S u l)->exitTo n k=je q->∀l∈q,SY P S u l:=by intro k;induction k with|nil=>intro q _ e;simp[exitTo]at e|cons x k O=>intro q h e;cases x;(case inBlock b=>simp[exitTo]at e;grind);all_goals (exact O (λl V=>h l (by simp[V])) e)
end
structure Twin(w v:qi):Prop where
 heap:v.1=w.1
 os:v.os=w.os
 output:v.output=w.output
theorem Twin.refl(w):Twin w w:=⟨r,r,r⟩
def Mw(w v:h)(K:Nat):Prop:=∀j<K,v.tape (v.drawn+j)=w.tape (w.drawn+j)
def Qz{α}:Ask α->h->Nat
 |.done _,_=>0
 |.ask what range k,w=>if(wh what range).forced then Qz (k 0) w else Qz (k ((wh what range).cut (w.tape w.drawn (.extern what range)))) { w with drawn:=w.drawn+1 }+1
def Hp{α}(P:jd):Sem α->h->Nat
 |.pure _,_=>0
 |.load m a k,w=>match w.cell? a with|some v=>Hp P (k v) w|none=>match w.farLoad P a (m==.atomic) with|.ok q=>Hp P (k q.1) w|.error _=>0
 |.store m a v k,w=>match w.cell? a with|some _=>Hp P k (w.setCell a v)|none=>match w.farStore P a v (m==.atomic) with|.ok q=>Hp P k q.1|.error _=>0
 |.new o k,w=>Hp P (k w.1.size) { w with heap:=w.1.push o }
 |.shape r k,w=>Hp P (k (w.shape? r)) w
 |.freeze a n k,w=>Hp P k (w.freeze a n)
 |.frozen a k,w=>Hp P (k (w.frozen? a)) w
 |.getObj r k,w=>match w.1[r]? with|some o=>Hp P (k o) w|none=>0
 |.setObj r o k,w=>Hp P k { w with heap:=w.1.setIfInBounds r o }
 |.choose q k,w=>if q.forced then Hp P (k 0) w else Hp P (k (q.cut (w.tape w.drawn q))) { w with drawn:=w.drawn+1 }+1
 |.sys c k,w=>Qz (Kernel.perform c w.os) w+Hp P (k (w.sys c).1) (w.sys c).2
 |.program k,w=>Hp P (k P) w
 |.mark _ k,w=>Hp P k w
 |.halt _,_=>0
def Mw.less{F}(h:Mw w v K)(E:F<=K):Mw w v F:=λj l=>h j Aa
theorem Aab:∀(b:Ask a)w v,Mw w v (Qz b w)->(v.ask b).1=(w.ask b).1/\(v.ask b).2 = { v with drawn:=v.drawn+Qz b w }/\(w.ask b).2 = { w with drawn:=w.drawn+Qz b w }:=by intro b;induction b with|done b=>exact λw v _=>⟨r,r,r⟩|ask K c k O=>intro w v h;unfold World.ask Qz;rw[Qz]at h;by_cases f:(wh K c).forced=jz;grind;simp only[f,aX,cB]at h⊢;have F:=h 0 Aa;have ⟨S,L,Y⟩:=O ((wh K c).cut (w.2 w.3 (.extern K c))) { w with drawn:=w.3+1 } { v with drawn:=v.3+1 } (λj l=>by have:=h (j+1) Aa;grind);grind
def XI{α}(w v:qi)(K:Nat):Result α->Result α->Prop
 |.ok a w',r=>∃v',r=.ok a v'/\Twin w' v'/\v'.tape=v.tape/\w'.tape=w.tape/\v'.drawn+w.drawn=v.drawn+w'.drawn
 |.halt _ _,r=>∃h v',r=.halt h v'
def LF{P}(h:v.1=w.1)(a b):v.farLoad P a b=w.farLoad P a b:=by unfold World.farLoad World.viewLoad World.seen World.noCell;simp[h]
def Acn{P}(h:v.1=w.1)(a u k b):v.seen P a u k b=w.seen P a u k b:=by unfold World.seen;simp[h]
def Tw{P}(h:Twin w v)(a x b):(∃e E,w.farStore P a x b=.error e/\v.farStore P a x b=.error E)∨∃Q l,w.farStore P a x b=.ok ({ w with heap:=Q },l)/\v.farStore P a x b=.ok ({ v with heap:=Q },l):=by unfold World.farStore World.noCell;rw[h.1];cases D:w.1[a.1]? with|none=>exact .inl ⟨_,_,iW,iW⟩|some o=>cases o with|view d u=>(dsimp only;(have c:∀z:qi,z.1=w.1->z.viewStore P d u a x b=(w.viewStore P d u a x b).map λq=>({ z with heap:=q.1.1 },q.2):=λz N=>by unfold World.viewStore;by_cases R:(!tight P P.depth u)=jz;simp[R,bV];rfl;simp only[R,aX,cB];rw[Acn N,N];cases w.seen P d u a b with|error e=>rfl|ok q=>obtain⟨k,e,r,m,i,p⟩:=q;cases x.bytes? with|none=>rfl|some g=>simp only[bind,Except.bind,pure,Except.pure];by_cases K:je (iY g)≠yd (λx=>iY x) i.bytes?;rw[aL K,aL K];rfl;rw[aO K,aO K];split<;>simp_all[Except.map]);have n:=c w iW;have j:=c v h.1;cases f:w.viewStore P d u a x b with|error e=>rw[f]at j;rw[j];exact .inl ⟨_,_,iW,iW⟩|ok q=>rw[f]at j n;rw[j];refine .inr ⟨q.1.1,q.2,?_,iW⟩;show Except.ok q=_;exact aK Except.ok (by injection n))|_=>exact .inl ⟨_,_,iW,iW⟩
def Yp{P}:∀(s:Sem a)w v,Twin w v->Mw w v (Hp P s w)->XI w v (Hp P s w) (s.run P w) (s.run P v):=by intro s;induction s with| pure c=>exact λw v R b=>⟨v,iW,R,iW,iW,Aa⟩| load m c k O=>(intro w v R b;(have M:v.cell? c=w.cell? c:=by unfold yg;rw[R.1]);simp only[qz,Hp]at b⊢;rw[M,LF R.1];cases W:w.cell? c with| some y=>grind| none=>simp only[W]at b⊢;cases hf:w.farLoad P c (m == .atomic) with| error e=>exact⟨_,_,iW⟩| ok q=>grind)| store m c y k O=>(intro w v R b;(have M:v.cell? c=w.cell? c:=by unfold yg;rw[R.1]);(have N:v.frozen? c=w.frozen? c:=by unfold World.frozen?;rw[R.1]);by_cases Z:(∃d,y=.agg d)∨∃d,y=.tuple d;rcases Z with⟨d,rfl⟩|⟨d,rfl⟩ <;> exact⟨_,_,iW⟩;(have e:∀z:qi,(Sem.store m c y k).run P z=match z.cell? c with|some _=>if z.frozen? c then .halt (.unsupported (.unsafePointer "a write to bytes that a string shares")) z else k.run P (z.setCell c y)|none=>match z.farStore P c y (m == .atomic) with|.ok (z',_)=>k.run P z'|.error h=>.halt h z:=λz=>by exact Udb);rw[e,e,M,N];simp only[Hp]at b⊢;cases W:w.cell? c with| some a1=>simp only[W]at b⊢;split;exact⟨_,_,iW⟩;exact O _ _ ⟨(by unfold World.setCell;rw[R.1]),R.2,R.3⟩ b| none=>simp only[W]at b⊢;rcases Tw R c y (m == .atomic) (P:=P) with⟨S,L,C,J⟩|⟨Q,l,C,J⟩;rw[C,J];exact⟨_,_,iW⟩;rw[C]at b;rw[C,J];exact O { w with heap:=Q } { v with heap:=Q } ⟨rfl,R.2,R.3⟩ b)| new o k O=>intro w v R b;simp only[qz,Hp]at b⊢;rw[R.1];exact O _ { w with heap:=w.1.push o } { v with heap:=w.1.push o } ⟨rfl,R.2,R.3⟩ b| shape r k O=>intro w v R b;(have e:v.shape? r=w.shape? r:=by unfold ny;rw[R.1]);simp only[qz,Hp]at b⊢;rw[e];exact O _ w v R b| freeze c l k O=>intro w v R b;(have e:(v.freeze c l).1=(w.freeze c l).1/\(v.freeze c l).4=v.4/\(v.freeze c l).5=v.5/\(w.freeze c l).4=w.4/\(w.freeze c l).5=w.5/\(v.freeze c l).2=v.2/\(w.freeze c l).2=w.2/\(v.freeze c l).3=v.3/\(w.freeze c l).3=w.3:=by unfold qn;split;exact⟨R.1,iW,iW,iW,iW,iW,iW,iW,iW⟩;rw[R.1];exact⟨iW,iW,iW,iW,iW,iW,iW,iW,iW⟩);obtain⟨S,L,Y,B,F,p,E,D,t⟩:=e;simp only[qz,Hp]at b⊢;have:=O (w.freeze c l) (v.freeze c l) ⟨S,by rw[L,B,R.2],by rw[Y,F,R.3]⟩ (λj g=>by rw[p,E,D,t];exact b j g);unfold XI at this⊢;rwa[p,E,D,t]at this| frozen c k O=>intro w v R b;(have e:v.frozen? c=w.frozen? c:=by unfold World.frozen?;rw[R.1]);simp only[qz,Hp]at b⊢;rw[e];exact O _ w v R b| getObj r k O=>(intro w v R b;simp only[qz,Hp]at b⊢;rw[R.1];cases W:w.1[r]? with| none=>exact⟨_,_,iW⟩| some o=>simp only[W]at b;cases o <;> first|exact⟨_,_,iW⟩|exact O _ w v R b)| setObj r o k O=>(intro w v R b;simp only[qz,Hp]at b⊢;rw[R.1];cases W:w.1[r]? with| none=>exact⟨_,_,iW⟩| some G=>cases G <;> first|exact⟨_,_,iW⟩|exact O { w with heap:=w.1.setIfInBounds r o } { v with heap:=w.1.setIfInBounds r o } ⟨rfl,R.2,R.3⟩ b)| choose q k O=>intro w v R b;simp only[qz,Hp]at b⊢;by_cases u:q.forced=jz;simp only[u,bV]at b⊢;exact O _ w v R b;simp only[u,aX,cB]at b⊢;have H:v.2 v.3=w.2 w.3:=b 0 Aa;rw[H];have:=O (q.cut (w.2 w.3 q)) { w with drawn:=w.3+1 } { v with drawn:=v.3+1 } ⟨R.1,R.2,R.3⟩ (λj g=>by have:=b (j+1) Aa;show v.2 (v.3+1+j)=w.2 (w.3+1+j);rwa[show v.3+1+j=v.3+(j+1) by omega,show w.3+1+j=w.3+(j+1) by omega]);revert this;unfold XI;split;rintro⟨U,C,J,T,i,n⟩;exact⟨U,C,J,T,i,by simp only at n;omega⟩;exact id| sys d k O=>intro w v R b;simp only[qz,Hp]at b⊢;obtain⟨S,L,Y⟩:=Aab (Kernel.perform d w.4) w v (b.less (Nat.le_add_right _ _));(have X:(v.sys d).1=(w.sys d).1/\Twin (w.sys d).2 (v.sys d).2/\(v.sys d).2.2=v.2/\(w.sys d).2.2=w.2/\∃f≤Qz (Kernel.perform d w.4) w,(v.sys d).2.3=v.3+f/\(w.sys d).2.3=w.3+f:=by unfold World.sys;rw[R.2];have I:v.ask (Kernel.perform d w.4)=((w.ask (Kernel.perform d w.4)).1,{ v with drawn:=v.3+Qz (Kernel.perform d w.4) w }):=Prod.ext S L;have ew:w.ask (Kernel.perform d w.4)=((w.ask (Kernel.perform d w.4)).1,{ w with drawn:=w.3+Qz (Kernel.perform d w.4) w }):=Prod.ext rfl Y;rw[I,ew];generalize (w.ask (Kernel.perform d w.4)).1=r;obtain⟨r,os⟩:=r;cases r <;> first|exact⟨iW,⟨R.1,iW,R.3⟩,iW,iW,_,aA _,iW,iW⟩|exact⟨iW,R,iW,iW,0,bB _,iW,iW⟩);obtain⟨s1,s2,V,K,f,hd,x,A⟩:=X;rw[s1];have:=O (w.sys d).1 (w.sys d).2 (v.sys d).2 s2 (λj g=>by rw[V,K,x,A];have:=b (f+j) Aa;rwa[eW,eW]);revert this;unfold XI;split;rintro⟨U,C,J,T,i,n⟩;exact⟨U,C,J,T.trans V,i.trans K,by rw[x,A]at n;omega⟩;exact id| program k O=>exact λw v R b=>O P w v R b| mark m k O=>exact λw v R b=>O w v R b| halt h=>exact λw v R b=>⟨_,_,iW⟩
def FG{P}:∀s(w:qi)X(c:a)B,s.run P w=.ok c B->(∀f∈s.events P w X,f.loc≠.output)->B.drawn=w.drawn+Hp P s w:=by intro s;induction s with| pure c=>intro w X x B Y _;cases Y;rfl| load m c k O=>(intro w X x B Y N;simp[qz,Hp]at Y⊢;rw[nu]at N;simp only[l6]at N;cases W:w.cell? c with| some y=>simp[W]at Y N⊢;exact O y w _ x B Y N| none=>simp[W]at Y N⊢;cases I:w.farLoad P c (m == .atomic) with| error f=>grind| ok q=>simp[I]at Y N⊢;exact O q.1 w _ x B Y N)| store m c y k O=>(intro w X x B Y N;by_cases Z:(∃d,y=.agg d)∨∃d,y=.tuple d;obtain⟨d,rfl⟩|⟨d,rfl⟩:=Z <;> cases Y;(have e:∀z:qi,(Sem.store m c y k).run P z=match z.cell? c with|some _=>if z.frozen? c then .halt (.unsupported (.unsafePointer "a write to bytes that a string shares")) z else k.run P (z.setCell c y)|none=>match z.farStore P c y (m == .atomic) with|.ok (T,_)=>k.run P T|.error h=>.halt h z:=λz=>by exact Udb);(have L:∀z X,(Sem.store m c y k).runT P z X=match z.cell? c with|some _=>if z.frozen? c then(.halt (.unsupported (.unsafePointer "a write to bytes that a string shares")) z,X) else k.runT P (z.setCell c y) (X.push ⟨.cell c,jz,m == .atomic⟩)|none=>match z.farStore P c y (m == .atomic) with|.ok (T,b)=>k.runT P T (X++b.toArray.map (⟨.cell ·,jz,m == .atomic⟩))|.error h=>(.halt h z,X):=λz X=>by exact Udb);rw[e]at Y;rw[nu,L]at N;simp[Hp];cases W:w.cell? c with| some z=>simp[W]at Y N⊢;split at Y;cases Y;rename_i j;simp[j,cB,aX]at N;exact O (w.setCell c y) _ x B Y N| none=>simp[W]at Y N⊢;cases I:w.farStore P c y (m == .atomic) with| error f=>rw[I]at Y;cases Y| ok q=>(have i:q.1.3=w.3:=by rcases Tw (Twin.refl w) c y (m == .atomic) (P:=P) with⟨e,L,C,J⟩|⟨Q,l,C,J⟩;rw[C]at I;cases I;rw[C]at I;cases I;rfl);simp[I]at Y N⊢;have:=O q.1 _ x B Y N;rw[this,i])| new o k O=>exact λw X x B Y N=>O _ { w with heap:=w.1.push o } X x B Y N| shape r k O=>exact λw X x B Y N=>O _ w X x B Y N| freeze c l k O=>intro w X x B Y N;have:=O (w.freeze c l) X x B Y N;rw[this];(have i:(w.freeze c l).3=w.3:=by rw[qn];split <;> rfl);rw[i];rfl| frozen c k O=>exact λw X x B Y N=>O _ w X x B Y N| getObj r k O=>(intro w X x B Y N;simp[qz,Hp]at Y⊢;unfold nu at N;simp only[l6]at N;cases W:w.1[r]? with| none=>rw[W]at Y;cases Y| some o=>rw[W]at Y N;cases o <;> first|(cases Y;done)|exact O _ w _ x B Y N)| setObj r o k O=>(intro w X x B Y N;simp only[qz,Hp]at Y⊢;unfold nu at N;simp only[l6]at N;cases W:w.1[r]? with| none=>rw[W]at Y;cases Y| some p=>rw[W]at Y N;cases p <;> first|(cases Y;done)|exact O { w with heap:=w.1.setIfInBounds r o } _ x B Y N)| choose q k O=>intro w X x B Y N;simp only[qz,Hp]at Y⊢;unfold nu at N;simp only[l6]at N;by_cases g:q.forced=jz;simp only[g,bV]at Y N⊢;exact O _ w X x B Y N;simp only[g,aX,cB]at Y N⊢;have:=O _ _ X x B Y N;rw[this];show w.3+1+_=_;omega| sys d k O=>intro w X x B Y N;exfalso;have e:(Sem.sys d k).events P w X=(k (w.sys d).1).events P (w.sys d).2 (X.push ⟨.output,jz,vy⟩):=iW;rw[e,(λs w X=>Sem.events_acc P s w X)]at N;exact N ⟨.output,jz,vy⟩ Ae iW| program k O=>exact λw X x B Y N=>O P w X x B Y N| mark m k O=>exact λw X x B Y N=>O w (X.push ⟨.mark m,vy,jz⟩) x B Y N| halt h=>intro w X x B Y;cases Y
def Lf(J:iH)(v:h):Prop:=∀e,Ig v e->Gp J e
structure Qw(J:iH)(B):Prop where
 cell:∀a:uw,J (.cell a)->a.block<B
 obj:∀r:Nat,J (.obj r)->r<B
def Qw.mono{J B G}(h:Qw J B)(k:B<=G):Qw J G:=⟨λa d=>aB (h.cell a d) k,λr Y=>aB (h.obj r Y) k⟩
def Lf.frame{J v X}(h:Lf J v)(K:Qw J v.1.size)(f:Dd v U X):Lf J U:=by intro e N W;obtain⟨l,b,k⟩:=e;cases l with|cell a=>(obtain⟨x,Z⟩:=N;have Y:=K.1 a W;have O:v.1[a.1]?=je v.1[a.1]:=aN Y;generalize v.1[a.1]=o at O;refine h ⟨.cell a,b,k⟩ ?_ W;by_cases z:Cn o;obtain⟨I,G,j,_⟩:=f.5 _ _ O z;rw[yg,G]at Z;(cases I with|cells c e i=>exact(j c e i iW).elim|_=>simp at Z);cases o with|cells c e i=>(obtain⟨B,n,p⟩:=f.4 _ _ _ _ O;rw[yg,n]at Z;cases d:a.3 with|some s=>simp[d]at Z|none=>simp[d,eX,aX,cB]at Z;have t:=(aJ.1 Z).1;refine⟨c[a.2]' Aa,?_⟩;rw[yg];grind)|_=>exact(z (λ_ _ _ e=>M2)).elim)|obj r=>(obtain⟨I,G,j,n⟩:=N;have Y:=K.2 r W;have O:v.1[r]?=je v.1[r]:=aN Y;generalize v.1[r]=o at O;refine h ⟨.obj r,b,k⟩ ?_ W;by_cases z:Cn o;obtain⟨u,g,T,q⟩:=f.5 _ _ O z;rw[G]at g;obtain rfl:=aC g;exact⟨o,O,z,λe=>n (q.trans e)⟩;cases o with|cells c e i=>obtain⟨B,g,_⟩:=f.4 _ _ _ _ O;rw[G]at g;obtain rfl:=aC g;exact(j _ _ _ iW).elim|_=>exact(z (λ_ _ _ e=>M2)).elim)|mark m=>exact h ⟨.mark m,b,k⟩ N W|output=>exact N.elim|goroutines=>exact N.elim
def Ua:∃n:Ren,∀G,n.Fix G:=⟨⟨id,λh=>h⟩,λG i _=>rfl⟩
inductive Pp(P S main J K fr up z z' w v):Prop
 |bad (o:Outcome) (v') (h:(ui P jz (G fr (up++z')) v).bare=.ended o v')
 |panic (chain) (v') (h:(ui P jz (G fr (up++z')) v).bare=.go (G (fr.raise chain) (up++z')) v')
 |go (fr') (up') (w' v') (hw:H0 P main J (G fr (up++z)) w (G fr' (up'++z)) w') (hs:(ui P jz (G fr (up++z')) w).bare=.go (G fr' (up'++z')) w') (hv:(ui P jz (G fr (up++z')) v).bare=.go (G fr' (up'++z')) v')
   (hf:Qt P S fr') (hu:KJ P S up') (ht:Twin w' v') (wt:w'.tape=w.tape) (vt:v'.tape=v.tape) (vd:v'.drawn=v.drawn+K)
section
variable {P:jd} {S:Env} {J:iH}
def Pp.ctl{fr' a}(Y:∀n(m:Bool)cs(w:qi),n.Fix P.globals.size->ui P m (G (Bp n X) cs) w=.go (G (Bp n fr') cs) w)(h:∀cs(w:qi),ui P jz (G X cs) w=.go (G fr' cs) w)(Q:Plain w)(R:Twin w v)(I:Qt P S fr')(r:KJ P S a):Pp P S e J 0 X a z T w v:=
 .go fr' a w v (JS iW Q λn w p=>Y n e _ w p) Adm Adm I r R iW iW iW
def IS(h:Qt P S X)(E:∀l∈k,SY P S X.fn l):Qt P S { X with todo:=k }:=⟨h.defers,h.kind,h.round,h.fn,h.mode,λ_=>E,h.reg⟩
def QA(h:Qt P S X):Qt P S { X with mode:=.returning }:=⟨h.defers,h.kind,h.round,h.fn,.inr rfl,λe=>M2,h.reg⟩
def Pp.lost{a}{f:qi->Outcome}(h:∀cs w,ui P jz (G X cs) w=.ended (f w) w):Pp P S e J K X a z T w v:=
 .bad _ v Adm
def DK(h:OkN P S x):known x:=by cases x<;>first|trivial|exact h.elim
def EG{g}(h:X.todo=.inRegion g l::k):(Bp n X).todo=.inRegion g l::k.map (Dh n):=by simp[Bp,h,Dh]
def Ab7(h:X.7=zt):(Bp n X).7=zt:=by simp[Bp,h]
def Twin.plain(h:Twin w v)(Q:Plain w):Plain v:=λi o O=>Q i o (by rwa[←h.1])
def RU{m}(L:X.mode=.run)(Y:X.7=zt){g}(I:X.todo=.inRegion g (i::l)::k)(O:g[i]?=je o)(v:jq o (yw g X.tmps)=jz):ui P m (G X cs) w=stepG.apply P jz X cs zt (lx X.eval o) w:=by rw[Bl L];simp[vk,I,O,v,stepG.oper,Frame.oper?,Y]
def Pp.op(hS:XH P S){t}(a:Qt P S X)(L:X.mode=.run)(r:KJ P S t){g}(I:X.todo=.inRegion g (i::l)::k)(O:g[i]?=je o)(aa:jq o (yw g X.tmps)=jz)(Z:Pl P S X.fn o)(Q:Plain w)(D:Lf J w)(hl:Qw J w.1.size)(R:Twin w v)(ha:Mw w v (Hp P (lx X.eval o) w)):Pp P S e J (Hp P (lx X.eval o) w) X t z T w v:=by obtain⟨n0,F⟩:=Ua;(have K:(X.6==yj)=vy:=by rw[a.2];rfl);have H:=Z.1 n0 X (F _) a.7;have d:=Yp (P:=P) (lx X.eval o) w v R ha;have V:∀cs w,ui P jz (G X cs) w=stepG.apply P jz X cs zt (lx X.eval o) w:=λcs w=>RU L a.3 I O aa;cases b:(lx X.eval o).run P w with|halt ab c=>(rw[b]at d;obtain⟨W,U,q⟩:=d;have D:=H.halts v W U (R.plain Q) q;cases W with|stuck s=>exact .bad _ U SG|unsupported a7=>(cases a7<;>first|exact D.elim|exact .bad _ U SG)|panic x=>refine .panic [{ v:=x,recovered:=vy }] U ?_;rw[V];simp[stepG.apply,qg,q,bV];rfl|_=>exact D.elim)|ok x c=>rw[b]at d;obtain⟨U,q,h,m,j,dd⟩:=d;obtain⟨m1,m2,Y⟩:=H.mono w x c Q b;have B:=Z.2 X w x c a.7 Q b;have hd:=FG (lx X.eval o) w #[] x c b (λf N O=>by have:=Y f N;rw[Ig]at this;grind);have E:∀z,H0 P e J (G X (t++z)) w (Wi P X (t++z) x) c:=λz=>Ahx (t:=λn=>lx (Bp n X).eval o) K ⟨_,_,_,I⟩ Q (DK B) (λn w hG=>RU (Cy L) (Ab7 a.3) (EG I) O (by rwa[show(Bp n X).2=X.2.map (A2 n) from iW,Gi])) (λn hG=>Z.1 n X hG a.7) ⟨n0,F _⟩ b (λf N=>D.frame hl m2 f (Y f N));(have p:∀T,(ui P jz (G X (t++T)) v).bare=.go (Wi P X (t++T) x) U:=λT=>by rw[Sf K ⟨_,_,_,I⟩ (V _ _) q (DK B)];rfl);(have A:∀T,(ui P jz (G X (t++T)) w).bare=.go (Wi P X (t++T) x) c:=λT=>by rw[Sf K ⟨_,_,_,I⟩ (V _ _) b (DK B)];rfl);have u:U.3=v.3+Hp P (lx X.eval o) w:=Aa;have a1:=Ae0 (P:=P) I O;cases x with|value x=>obtain⟨C,h2⟩:=Od a L x (a1.1 x _ _ b);exact .go (X.finish x) t c U (E z) (A T) (p T) C r h j m u|skip=>obtain⟨C,h2⟩:=Od a L re (Y9 _);exact .go (X.finish re) t c U (E z) (A T) (p T) C r h j m u|enter a6 y=>obtain⟨C,h2⟩:=DV (P:=P) hS B.1 y B.2;refine .go (ur P a6 y .normal) (X::t) c U (E z) (A T) (p T) C (λa8 M=>?_) h j m u;simp[bM]at M;obtain rfl|M:=M;exact⟨a,L,a1.2 a6 y _ _ b⟩;exact r a8 M|_=>exact B.elim
def Ack(hS:XH P S){up}(g:Qt P S X)(L:X.mode=.run)(r:KJ P S up)(w)(Q:Plain w)(hb:Lf J w)(hl:Qw J w.1.size):∃K,∀z T(v:qi),Twin w v->Mw w v K->Pp P S e J K X up z T w v:=by have Y:=g.6 L;cases I:X.3 with|nil=>refine⟨0,λz T v R _=>Pp.ctl (fr':={ X with mode:=.returning }) (λn m cs w p=>?_) (λcs w=>?_) Q R (QA g) r⟩;rw[Bl (Cy L)];simp[vk,I,g.3,G,Bp,Kh];rw[Bl L];simp[vk,I,g.3,G]|cons x k=>rw[I]at Y;have E:∀A∈k,SY P S X.1 A:=λA V=>Y A (by simp[V]);have Z:SY P S X.1 x:=Y x Ae;(have u:∀{y},SY P S X.1 y->∀A∈y::k,SY P S X.1 A:=λhy A V=>by grind);(have j:∀{y W},SY P S X.1 y->SY P S X.1 W->∀A∈y::W::k,SY P S X.1 A:=λhy a7 A V=>by grind);have q:∀{k'},(∀A∈k',SY P S X.1 A)->(∀n(m:Bool)cs(w:qi),n.Fix P.globals.size->ui P m (G (Bp n X) cs) w=.go (G (Bp n { X with todo:=k' }) cs) w)->(∀cs w,ui P jz (G X cs) w=.go (G { X with todo:=k' } cs) w)->∃K,∀z T(v:qi),Twin w v->Mw w v K->Pp P S e J K X up z T w v:=λai C D=>⟨0,λz T v R _=>Pp.ctl C D Q R (IS g ai) r⟩;(have H:(∀n(m:Bool)cs(w:qi),n.Fix P.globals.size->ui P m (G (Bp n X) cs) w=.go (G ((Bp n X).finish re) cs) w)->(∀cs w,ui P jz (G X cs) w=.go (G (X.finish re) cs) w)->∃K,∀(z T:List s9)(v:qi),Twin w v->Mw w v K->Pp P S e J K X up z T w v:=λC D=>by obtain⟨g1,g2⟩:=Od g L re (Y9 _);exact⟨0,λz T v R _=>Pp.ctl (fr':=X.finish re) (λn m cs w p=>by rw[C n m cs w p,P4]) D Q R g1 r⟩);have B:(∃o,∀cs w,ui P jz (G X cs) w=.ended o w)->∃K,∀(z T:List s9)(v:qi),Twin w v->Mw w v K->Pp P S e J K X up z T w v:=fun⟨o,h⟩=>⟨0,λz T v _ _=>Pp.lost (f:=λ_=>o) h⟩;cases x with|code c=>(cases c with|skip=>exact q E Aln λcs w=>by rw[Bl L];simp[vk,I,G,L]|label l=>exact q E Aln λcs w=>by rw[Bl L];simp[vk,I,G,L]|ret=>refine⟨0,λz T v R _=>Pp.ctl (fr':={ X with mode:=.returning }) (λn m cs w p=>?_) (λcs w=>?_) Q R (QA g) r⟩;rw[Bl (Cy L)];simp[vk,I,g.round,G,Bp,Kh,Dh];rw[Bl L];simp[vk,I,g.round,G]|seq i b=>exact q (k':=.code i::.code b::k) (j Z.1 Z.2) Aln λcs w=>by rw[Bl L];simp[vk,I,G,L]|cond c i b=>(by_cases M:∃t,X.eval c=.bool t;obtain⟨t,M⟩:=M;(refine q (k':=.code (if t then i else b)::k) (u ?_) (λn m cs w p=>?_) λcs w=>by rw[Bl L];simp[vk,I,G,L,M]);cases t;exact Z.2;exact Z.1.2;(have N:(Bp n X).eval c=.bool t:=by rw[Rg p X (Bp n X) iW c Z.1.1,M];simp);(have ae:(Bp n X).todo=.code (.cond c i b)::k.map (Dh n):=by simp[Bp,I,Dh]);rw[Bl (Cy L)];simp[vk,ae,N];simp[G,Bp,I,Dh,Kh,L];apply B;cases N:X.eval c with|bool t=>exact absurd ⟨t,N⟩ M|_=>exact⟨_,λcs w=>by rw[Bl L];simp[vk,I,N];rfl⟩)|block d b=>exact q (k':=.code b::.inBlock d::k) (j Z trivial) Aln λcs w=>by rw[Bl L];simp[vk,I,G,L]|loop b=>exact q (k':=.code b::.inLoop b::k) (j Z Z) Aln λcs w=>by rw[Bl L];simp[vk,I,G,L]|scope b=>exact q (k':=.code b::.inScope b::k) (j Z Z) Aln λcs w=>by rw[Bl L];simp[vk,I,G,L]|exit d=>(cases N:exitTo d k with|some k'=>exact q (k':=k') (Af7 E N) (λn m cs w _=>by rw[Bl (Cy L)];simp[vk,I,G,L,Bp,Dh,Kh,P1,N]) λcs w=>by rw[Bl L];simp[vk,I,G,L,N]|none=>exact B ⟨_,λcs w=>by rw[Bl L];simp[vk,I,N,nk,g.round];rfl⟩)|goto l=>(cases N:gotoIn l k with|some k'=>exact q (k':=k') (Af8 E N) (λn m cs w _=>by rw[Bl (Cy L)];simp[vk,I,G,L,Bp,Dh,Kh,Uv,N]) λcs w=>by rw[Bl L];simp[vk,I,G,L,N]|none=>exact B ⟨_,λcs w=>by rw[Bl L];simp[vk,I,N,nk,g.round];rfl⟩)|rangeFunc f ps i b=>exact Z.elim|refuse s=>exact Z.elim|region d a ad=>cases ad with|false=>exact q (k':=.inRegion a (List.range a.size)::k) (u Z) Aln λcs w=>by rw[Bl L];simp[vk,I,G,L]|true=>refine⟨1,λz T v R ag=>?_⟩;have e0:v.tape v.drawn=w.tape w.drawn:=ag 0 Aa;(have U:∀cs (w:qi),ui P jz (G X cs) w=.go (G { X with todo:=.inRegion a (Region.schedule (P.follows .mixedOrders) a (w.tape w.drawn (.order X.fn d)))::k } cs) { w with drawn:=w.drawn+1 }:=by intro cs w;rw[Bl L];simp[vk,I,G,L,choose,qz,xo,Question.cut]);refine .go { X with todo:=.inRegion a (Region.schedule (P.follows .mixedOrders) a (w.tape w.drawn (.order X.fn d)))::k } up { w with drawn:=w.drawn+1 } { v with drawn:=v.drawn+1 } (EW rfl Q λn w' p a6 ah=>?_) ?_ ?_ (IS g (u Z)) r ⟨R.1,R.os,R.output⟩ rfl rfl rfl;rw[E6,Bl (Cy L)];simp[vk,I,G,L,Bp,Dh,Kh,Bt,choose,qz,xo,Question.cut,a6,ah];rw[U];rfl;rw[U,e0];rfl)|inBlock d=>exact q E Aln λcs w=>by rw[Bl L];simp[vk,I,G,L]|inScope b=>exact q E Aln λcs w=>by rw[Bl L];simp[vk,I,G,L]|inLoop b=>exact q (k':=.code b::.inLoop b::k) (j Z Z) Aln λcs w=>by rw[Bl L];simp[vk,I,G,L]|inRegion a l=>(cases l with|nil=>exact q E Aln λcs w=>by rw[Bl L];simp[vk,I,G,L]|cons a1 l=>cases O:a[a1]? with|none=>exact H (λn m cs w _=>by rw[Bl (Cy L)];simp[vk,EG I,G,O]) λcs w=>by rw[Bl L];simp[vk,I,G,O]|some o=>cases F:jq o (yw a X.tmps) with|false=>exact H (λn m cs w _=>by rw[Bl (Cy L)];simp[vk,EG I,G,O,show(Bp n X).tmps=X.tmps.map (A2 n) from iW,Gi,F]) λcs w=>by rw[Bl L];simp[vk,I,G,O,F]|true=>exact⟨_,λz T v R ha=>Pp.op hS g L r I O F (Z a1 o O) Q hb hl R ha⟩)|_=>exact Z.elim
end
section
variable {P:jd} {S:Env} {J:iH}
def Qk(u)(a:iJ):Y P n (Z n) (results u a) (results u (a.map (Z n))):=by have h:=Y.arrayMapM (P:=P) (n:=n) (H:=λ_=>False) (f:=id) (k:=fun|ResultVar.tmp t=>(pure (a.getD t re):Sem E)|.cell b t=>do loadVar t (←asAddr (a.getD b re))) (k':=fun|ResultVar.tmp t=>(pure ((a.map (Z n)).getD t re):Sem E)|.cell b t=>do loadVar t (←asAddr ((a.map (Z n)).getD b re))) (λx=>by cases x with|tmp t=>exact Y.pure (CW _ _)|cell b t=>show Y P n _ _ (do loadVar t (←asAddr ((a.map (Z n)).getD b re)));rw[CW];exact Y.bind (Y.asAddr _) λ_=>Y.loadVar _ _) u.8;rw[Array.map_id]at h;refine Y.bind h λc=>Y.pure ?_;by_cases q:c.size=1;simp[q];simp[q]
def Ql{fr c cs m u a}(L:fr.mode=.returning)(y:fr.defers = [])(E:fr.kind=.normal)(I:P.funcs[fr.fn]?=je u)(Y:(results u fr.tmps).run P w=.ok a B):ui P m (G fr (c::cs)) w=.go (G (c.finish a) cs) B (seen P fr.fn ((results u fr.tmps).events P w #[])):=by
 have V:ui P m (G fr (c::cs)) w=fw P m fr (c::cs) zt w:=by unfold ui G;simp[L]
 rw[V];simp[fw,y,L,I,qg,Y,doReturn,E];simp[GStep.after,G]
theorem stepR_ret{c u a}(L:fr.mode=.returning)(y:fr.defers = [])(E:fr.kind=.normal)(I:P.funcs[fr.fn]?=je u)(Q:Plain v)(Y:(results u fr.tmps).run P v=.ok a U)(W:∀b∈(results u fr.tmps).events P v #[],Gp J b):H0 P e J (G fr (c::cs)) v (G (c.finish a) cs) U:=by obtain⟨l,_⟩:=Ua;obtain⟨i,f,k⟩:=(Qk (P:=P) (n:=l) u fr.2).mono v a U Q Y;refine⟨r,i,⟨_,f,λb N=>⟨k b N,W b N⟩⟩,λn t w p R s=>?_⟩;obtain⟨B,C,d,T,q⟩:=(Qk (P:=P) (n:=n) u fr.2).sim J t v w s Q W a U Y R;refine⟨B,seen P fr.1 ((results u (fr.2.map (Z n))).events P w #[]),(results u fr.2).events P v #[],?_,T,by rwa[←d],λb N=>⟨k b N,W b N⟩,λb N=>d▸mem_seen N⟩;have:=Ql (P:=P) (m:=e) (fr:=Bp n fr) (c:=Bp n c) (cs:=cs.map (Bp n)) (MJ L) (by simp[Bp,y]) E I C;rw[E6,bF,this,Nc];rfl
def Ab9(H:XH P S){c j}(f:Qt P S X)(L:X.mode=.returning)(r:KJ P S (c::j))(w)(Q:Plain w)(D:Lf J w)(n:Qw J w.1.size):∃K,∀z T(v:qi),Twin w v->Mw w v K->Pp P S e J K X (c::j) z T w v:=by obtain⟨u,I⟩:=f.4;obtain⟨l,_⟩:=Ua;obtain⟨M,t,i⟩:=r c Ae;have d:=Qk (P:=P) (n:=l) u X.2;refine⟨Hp P (results u X.2) w,λz T v R m=>?_⟩;have g:=Yp (P:=P) (results u X.2) w v R m;(have V:∀cs w,ui P jz (G X cs) w=fw P jz X cs zt w:=λcs w=>by unfold ui G;simp[L]);cases s:(results u X.2).run P w with|halt E B=>(rw[s]at g;obtain⟨k,U,q⟩:=g;have D:=d.halts v k U (R.plain Q) q;cases k with|_=>exact .bad _ U (by rw[V];simp[fw,f.1,L,I,qg,q];rfl))|ok a B=>rw[s]at g;obtain⟨U,q,p,o,x,Y⟩:=g;obtain⟨F,y,h⟩:=d.mono w a B Q s;have O:=FG (results u X.2) w #[] a B s (λb N W=>by have:=h b N;rw[Ig]at this;grind);obtain⟨C,a1⟩:=Od M t a (i a);refine .go (c.finish a) j B U (stepR_ret L f.1 f.2 I Q s λb N=>D.frame n y b (h b N)) ?_ ?_ C (λA Z=>r A (by simp[Z])) p x o Aa;rw[cS,Ql L f.1 f.2 I s];rfl;rw[cS,Ql L f.1 f.2 I q];rfl
end
def Lx(P:jd):s9:={ fn:=P.funcs.size,tmps:=#[],todo:=[.call default vy "fmt's door, shut" #[]],defers:=[],mode:=.run,kind:=.normal }
section
variable {P:jd} {S:Env}
def Rt{V d}(h:zu X cs w=zu V d B):X=V/\cs=d/\w=B:=by simp[zu,Machine.mk.injEq,hU,dX,xg]at h;grind
def Xc{n V d m}(h:(ui P jz (G X cs) w).bare=.go (G V d) B)(Y:runN P (n+1) (zu X cs w)=.next m):runN P n (zu V d B)=.next m:=by have:=step_lone_go h;simpa only[runN,this] using Y
def runN_ended{n o m}(h:(ui P jz (G X cs) w).bare=.ended o B)(Y:runN P (n+1) (zu X cs w)=.next m):False:=by have:=step_lone_ended h;simp[runN,this]at Y
def Kc(L:X.mode≠.run):ui P jz (G X cs) w=fw P jz X cs zt w:=by unfold ui G;grind
theorem raise_mode(X:s9)(a):∃c,X.raise a = { X with mode:=.panicking c }:=by rw[Frame.raise];split<;>exact⟨_,r⟩
def VI:∀e(X:s9)c,X.defers = []->(∃f,P.funcs[X.fn]?=je f)->(∀x∈e,x.defers = []/\∃f,P.funcs[x.fn]?=je f)->∀n(v U:qi)V(d:List s9),
  runN P n (zu { X with mode:=.panicking c } (e++[Lx P]) v)=.next (zu V d U)->∃B,V.mode=.panicking B:=by intro e;induction e with|nil=>(intro X c h I r n v U V d Y;obtain⟨f,I⟩:=I;cases n with|zero=>exact Gd4|succ n=>obtain⟨R,L⟩:=raise_mode (Lx P) c;(have C:(ui P jz (G { X with mode:=.panicking c } ([]++[Lx P])) v).bare=.go (G { Lx P with mode:=.panicking R } []) v:=by rw[Kc j,←L];simp[fw,h,ir,I];rfl);have J:=Xc C Y;cases n with|zero=>simp[runN,px]at J;rw[←(Rt J).1];exact⟨_,iW⟩|succ n=>have b:P.2[P.2.size]?=zt:=j;(have T:∃o,(ui P jz (G { Lx P with mode:=.panicking R } []) v).bare=.ended o v:=by rw[Kc j];(have M:ir P { Lx P with mode:=.panicking R }=jz:=by simp only[ir,Lx,b];decide +kernel);simp[fw,Lx]at M⊢;simp_all);obtain⟨o,T⟩:=T;exact(runN_ended T J).elim)|cons x e O=>intro X c h I r n v U V d Y;obtain⟨f,I⟩:=I;cases n with|zero=>exact Gd4|succ n=>obtain⟨Z,i⟩:=r x j;obtain⟨R,L⟩:=raise_mode x c;(have C:(ui P jz (G { X with mode:=.panicking c } ((x::e)++[Lx P])) v).bare=.go (G { x with mode:=.panicking R } (e++[Lx P])) v:=by rw[Kc j,←L];simp[fw,h,ir,I,cS];rfl);exact O x R Z i (λy a=>r y (by simp[a])) n v U V d (Xc C Y)
def RB(b:Qt P S X)(L:X.mode=.returning)(n v U V):runN P (n+1) (zu X [Lx P] v)≠.next (zu V [Lx P] U):=by intro Y;obtain⟨u,I⟩:=b.4;cases g:(results u X.2).run P v with| halt h t=>(have C:∃o,(ui P jz (G X [Lx P]) v).bare=.ended o t:=by rw[Kc (by rw[L];simp)];simp[fw,b.1,L,I,qg,g];cases h <;> exact⟨_,iW⟩);obtain⟨o,C⟩:=C;exact runN_ended C Y| ok x t=>(have C:(ui P jz (G X [Lx P]) v).bare=.go (G ((Lx P).finish x) []) t:=by rw[Kc (by rw[L];simp)];simp[fw,b.1,L,I,qg,g,doReturn,b.2];rfl);have J:=Xc C Y;cases n with| zero=>simp[runN,px]at J;have:=(Rt J).2.1;simp at this| succ n=>(have Z:Extern.next "fmt's door, shut" = zt:=by decide +kernel);(have T:∃o,(ui P jz (G ((Lx P).finish x) []) t).bare=.ended o t:=by rw[Bl iW];simp only[vk,Lx,rh,Z,nk];exact⟨_,iW⟩);obtain⟨o,T⟩:=T;exact runN_ended T J
end
inductive Tree
 |leaf
 |node (f:Nat->Tree)
def FwT(P:jd)(main:Bool)(J:iH)(Stop:gy->h->Prop):Tree->gy->h->Prop
 |.leaf,g,v=>Plain v/\∀d,Stop g (v.at d)
 |.node f,g,v=>Plain v/\g.status=.running/\∀d,∃g' v',H0 P main J g (v.at d) g' v'/\FwT P main J Stop (f d) g' v'
def Fw(P:jd)(main:Bool)(J:iH)(Stop:gy->h->Prop)(g:gy)(v:h):Prop:=∃T,FwT P main J Stop T g v
def EV(P:jd)(main:Bool)(J:iH)(Stop:gy->h->Prop)(g:gy)(v:h):Prop:=Plain v->Fw P main J Stop g v
section
variable {P:jd} {J:iH} {g:gy}
def FwT.at{T}(h:FwT P main J N T g v)(d):FwT P main J N T g (v.at d):=by cases T<;>exact h
def Fw.at(h:Fw P main J N g v)(d):Fw P main J N g (v.at d):=let⟨T,h⟩:=h;⟨T,h.at d⟩
def Fw.step(z:Plain v)(Y:g.status=.running)(h:∀d,∃R U,H0 P main J g (v.at d) R U/\Fw P main J N R U):Fw P main J N g v:=
 ⟨.node λd=>(h d).choose_spec.choose_spec.2.choose,z,Y,λd=>⟨(h d).choose,(h d).choose_spec.choose,(h d).choose_spec.choose_spec.1,(h d).choose_spec.choose_spec.2.choose_spec⟩⟩
def EV.stop(h:∀d,N g (v.at d)):EV P main J N g v:=λz=>⟨.leaf,z,h⟩
def EV.at(h:EV P main J N g v)(d):EV P main J N g (v.at d):=λz=>Fw.at (h z) d
def EV.step(Y:g.status=.running)(h:Plain v->∀d,∃R U,H0 P main J g (v.at d) R U/\EV P main J N R U):EV P main J N g v:=λz=>
 Fw.step z Y λd=>let⟨R,U,C,a⟩:=h z d;⟨R,U,C,a C.plain⟩
end
section
variable {P:jd} {S:Env} {J:iH} {c0:s9} {cs0:List s9} {tp:Nat->Question->Nat}
structure Tn(P S main J)(Stop:gy->qi->Prop)(c0 cs0)(tp:Nat->Question->Nat) where
 fr:s9
 up:List s9
 w:qi
 okf:Qt P S fr
 oku:KJ P S up
 plain:Plain w
 blind:Lf J w
 low:Qw J w.1.size
 tape:w.tape=tp
 not:¬Fw P main J Stop (G fr (up++c0::cs0)) w
structure Adv(x:Tn P S main J Stop c0 cs0 tp)(d K)(y:Tn P S main J Stop c0 cs0 tp):Prop where
 mid:¬(x.up = []/\x.1.mode=.returning)->(∀v,Twin (x.w.at d) v->Mw (x.w.at d) v K->Pp P S main J K x.1 x.up (c0::cs0) [Lx P] (x.w.at d) v) /\
  ∀fr' up' w',(ui P jz (G x.1 (x.up++[Lx P])) (x.w.at d)).bare=.go (G fr' (up'++[Lx P])) w'->H0 P main J (G x.1 (x.up++c0::cs0)) (x.w.at d) (G fr' (up'++c0::cs0)) w'->Qt P S fr'->KJ P S up'->w'.tape=tp->y.1=fr'/\y.up=up'/\y.w=w'
 last:x.up = []->x.1.mode=.returning->∀fn,P.funcs[x.1.fn]?=je fn->K=Hp P (results fn x.1.tmps) (x.w.at d)/\∀val w',(results fn x.1.tmps).run P (x.w.at d)=.ok val w'->¬EV P main J Stop (G (c0.finish val) cs0) w'
def Abp(H:XH P S){a}(I:Qt P S X)(r:KJ P S a)(d:¬(a = []/\X.mode=.returning))(w)(Q:Plain w)(D:Lf J w)(b:Qw J w.1.size):∃K,∀z T(v:h),Twin w v->Mw w v K->Pp P S main J K X a z T w v:=by obtain L|L:=I.5;exact Ack H I L r w Q D b;cases a with|nil=>exact absurd ⟨iW,L⟩ d|cons c a=>exact Ab9 H I L r w Q D b
def H0.blind{g}(h:H0 P main J g v R U)(D:Lf J v)(K:Qw J v.1.size):Lf J U/\Qw J U.1.size:=by have ⟨X,f,_⟩:=h.3;exact⟨D.frame K f,K.mono f.1⟩
def adv(H:XH P S)(x:Tn P S main J Stop c0 cs0 tp):∃d K y,Adv x d K y:=by
 have Z:∃d,∀R U,H0 P main J (G x.1 (x.2++c0::cs0)) (x.w.at d) R U->¬Fw P main J Stop R U:=by refine cX λa8=>x.10 (Fw.step x.6 iW λd=>?_);simp_all
 obtain⟨d,j⟩:=Z;by_cases Q:x.2 = []/\x.1.5=.returning;obtain⟨r,L⟩:=Q;obtain⟨u,I⟩:=x.4.4;refine⟨d,Hp P (results u x.1.2) (x.w.at d),x,λi=>absurd ⟨r,L⟩ i,λ_ _ O W=>?_⟩;obtain rfl:O=u:=aC (W.symm.trans I);refine⟨iW,λval a o D=>?_⟩;obtain⟨l,_⟩:=Ua;obtain⟨m1,m,q⟩:=(Qk (P:=P) (n:=l) O x.1.2).mono (x.w.at d) val a x.6 o;have s:H0 P main J (G x.1 (x.2++c0::cs0)) (x.w.at d) (G (c0.finish val) cs0) a:=r▸stepR_ret L x.4.1 x.4.2 I x.6 o λe N=>Lf.frame (v:=x.w.at d) x.7 x.8 m e (q e N)
 exact j _ _ s (D s.2);obtain⟨K,p⟩:=Abp (J:=J) (main:=main) H x.4 x.5 Q (x.w.at d) x.6 x.7 x.8;by_cases k:∃V F a,(ui P jz (G x.1 (x.2++[Lx P])) (x.w.at d)).bare=.go (G V (F++[Lx P])) a/\H0 P main J (G x.1 (x.2++c0::cs0)) (x.w.at d) (G V (F++c0::cs0)) a/\Qt P S V/\KJ P S F/\a.2=tp;obtain⟨V,F,a,C,c,T,t,z⟩:=k;obtain⟨A,B⟩:=c.blind x.7 x.8;refine⟨d,K,⟨V,F,a,T,t,c.2,A,B,z,j _ _ c⟩,λ_=>⟨λv s g=>p _ _ v s g,λf h E b _ _ _ _=>?_⟩,λr L=>absurd ⟨r,L⟩ Q⟩;rw[C]at b;injection b with Y M;simp only[G,xg]at Y;obtain⟨w,X,_⟩:=Y;exact⟨w,List.append_cancel_right X,M⟩;exact⟨d,K,x,λ_=>⟨λv s g=>p _ _ v s g,λf h E b a1 a6 a7 n=>absurd ⟨f,h,E,b,a1,a6,a7,n⟩ k⟩,λr L=>absurd ⟨r,L⟩ Q⟩
section
variable (H:XH P S) (p:Tn P S main J Stop c0 cs0 tp)
noncomputable def UY(x:Tn P S main J Stop c0 cs0 tp):Tn P S main J Stop c0 cs0 tp:=(adv H x).choose_spec.choose_spec.choose
noncomputable def Re(x:Tn P S main J Stop c0 cs0 tp):Nat:=(adv H x).choose
noncomputable def FE(x:Tn P S main J Stop c0 cs0 tp):Nat:=(adv H x).choose_spec.choose
def Adx(x:Tn P S main J Stop c0 cs0 tp):Adv x (Re H x) (FE H x) (UY H x):=(adv H x).choose_spec.choose_spec.choose_spec
noncomputable def Lu:Nat->Tn P S main J Stop c0 cs0 tp
 |0=>p
 |n+1=>UY H (Lu n)
noncomputable def posOf:Nat->Nat
 |0=>0
 |n+1=>posOf n+FE H (Lu H p n)
open Classical in
noncomputable def MW(n:Nat)(q:Question):Nat:=
 if h:∃ij:Nat×Nat,n=posOf H p ij.1+ij.2/\ij.2<FE H (Lu H p ij.1) then tp (Re H (Lu H p h.choose.1)+h.choose.2) q else 0
def QO{k}(h:i<=k):posOf H p i<=posOf H p k:=by induction k with|zero=>grind|succ k O=>obtain Y|v:=gT i (k+1);exact aD (O Aa) (Nat.le_add_right _ _);grind
theorem ZF{i j}(l:j<FE H (Lu H p i)):MW H p (posOf H p i+j)=tp (Re H (Lu H p i)+j):=by funext q;rw[MW];have Q:∃I:Nat×Nat,posOf H p i+j=posOf H p I.1+I.2/\I.2<FE H (Lu H p I.1):=⟨(i,j),r,l⟩;rw[dif_pos Q];have n:=Q.choose_spec;generalize Q.choose=I at n;have ⟨F,a⟩:=I;have ⟨C,J⟩:=n;simp only at C J⊢;(have:i=F:=by obtain h|h|h:=fF i F;have:=QO H p (show i+1<=F from h);simp[posOf]at this;omega;exact h;have:=QO H p (show F+1<=i from h);simp[posOf]at this;omega);grind
theorem Abh{R:Ending->qi->Prop}{a:s9}{val:p8}(K:a.leaving P U (.returned val))(ak:R (.returned val) U)(O:∀val w v,Twin w v->w.tape=tp->R (.returned val) v->EV P main J Stop (G (c0.finish val) cs0) w) :
  ∀(n i:Nat)(L:qi),runN P n (zu (Lu H p i).1 ((Lu H p i).up ++ [Lx P]) L)=.next (zu a [Lx P] U)->Twin (Lu H p i).w L->L.tape=MW H p->L.drawn=posOf H p i->False:=by intro n;induction n with| zero=>(intro i L Y t d V;simp[runN,px]at Y;obtain⟨S,N,u⟩:=Rt Y;have g:=Adx H (Lu H p i);have k:=λj=>ZF H p (i:=i) (j:=j);generalize Z:Lu H p i=x at *;(have r:x.2 = []:=by have:=aK List.length N;simp at this;exact this);obtain⟨o,ag,al,e,I,y⟩:=K;(have W:x.1.5=.returning:=by rwa[S]);rw[←S,←u]at y;rw[←S]at I;obtain⟨a1,a6⟩:=g.2 r W e I;(have T:Mw (x.w.at (Re H x)) L (Hp P (results e x.1.2) (x.w.at (Re H x))):=λj l=>by rw[←a1]at l;rw[d,V,k j l];show tp _=x.w.2 _;rw[x.9];rfl);have f:=Yp (P:=P) (results e x.1.2) (x.w.at (Re H x)) L ⟨t.1,t.2,t.3⟩ T;cases s:(results e x.1.2).run P (x.w.at (Re H x)) with| halt h c=>rw[s]at f;obtain⟨h',b,q⟩:=f;grind| ok ao c=>rw[s]at f;obtain⟨b,q,D,z,m,_⟩:=f;rw[y]at q;injection q with ae X;subst ae X;exact a6 val c s (O val c L D (m.trans x.9) (by rwa[u])))| succ n ih=>intro i L Y t d V;have g:=Adx H (Lu H p i);have a7:UY H (Lu H p i)=Lu H p (i+1):=iW;have A:posOf H p (i+1)=posOf H p i+FE H (Lu H p i):=iW;have k:=λj=>ZF H p (i:=i) (j:=j);generalize Z:Lu H p i=x at *;by_cases Q:x.2 = []/\x.1.5=.returning;obtain⟨r,o⟩:=Q;rw[r]at Y;exact RB x.4 o n L U a Y;obtain⟨a8,aa⟩:=g.1 Q;(have T:Mw (x.w.at (Re H x)) L (FE H x):=λj l=>by rw[d,V,k j l];show tp _=x.w.2 _;rw[x.9];rfl);cases a8 L ⟨t.1,t.2,t.3⟩ T with| bad aq b h=>exact runN_ended h Y| panic ab b h=>obtain⟨ad,ec⟩:=raise_mode x.1 ab;rw[ec]at h;obtain⟨B,M⟩:=VI x.2 x.1 ad x.4.1 x.4.4 (λE F=>⟨(x.5 E F).1.1,(x.5 E F).1.4⟩) n b U a [Lx P] (Xc h Y);rw[K.1]at M;cases M| go af ah c b ai aj q I r C m z vd=>obtain⟨S,N,u⟩:=aa af ah c aj ai I r (m.trans x.9);rw[a7]at S N u;refine ih (i+1) b ?_ ?_ ?_ ?_;rw[S,N];exact Xc q Y;rwa[u];rw[z,d];rw[vd,V,A]
end
theorem Amz(g:XH P S){f}(I:S f){w}(Q:Plain w)(D:Lf J w)(K:Qw J w.1.size){a:iJ}(j:S.reg f (ur P f a .normal).tmps){R:Ending->qi->Prop}(d:∀c v,¬R (.panicked c) v)(N:∀v,¬R .outgrown v)(H:∀v,Twin w v->Calls P f a v R)(F:∀val B U,Twin B U->B.tape=w.tape->R (.returned val) U->EV P main J Stop (G (c0.finish val) cs0) B):Fw P main J Stop (G (ur P f a .normal) (c0::cs0)) w:=by refine cX λO=>?_;let p:Tn P S main J Stop c0 cs0 w.2:=⟨ur P f a .normal,[],w,(DV g I a j).1,(λ_ h=>by cases h),Q,D,K,r,O⟩;have ⟨e,U,X,b,i,_,m⟩:=H { w with tape:=MW g p,drawn:=0 } ⟨rfl,rfl,rfl⟩ [Lx P];cases e with|panicked k=>exact d k U b|outgrown=>exact N U b|returned val=>have ⟨n,z⟩:=i;exact Abh g p m b (λval B v l E Y=>F val B v l E Y) n 0 _ z ⟨r,r,r⟩ r r
end
def Tree.Sub(s:Tree):Tree->Prop
 |.leaf=>False
 |.node f=>∃d,s=f d
def Tree.wf:WellFounded Tree.Sub:=⟨λt=>by induction t with|leaf=>exact⟨_,λs h=>h.elim⟩|node f O=>exact⟨_,λs⟨d,h⟩=>h▸O d⟩⟩
def B9(n:Ren)(a:Act):Act:=⟨a.tmps.map (Z n),a.defers.map (Qh n)⟩
theorem Hv(n)(b:s9)(a k):Bp n (b.at a k)=b.at (B9 n a) (k.map (Dh n)):=r
theorem Jh{G}(p:n.Fix G)(a x)(h:E4 G x=jz):(B9 n a).eval x=Z n (a.eval x):=by have:=Rg p ((default:s9).at a []) ((default:s9).at (B9 n a) []) r x h;rwa[Frame.eval_at,Frame.eval_at]at this
section
variable (P:jd) (d:Bool) (J:iH) (g:gy->qi->Prop)
def Xn(b:s9)(k:List jc)(z:List s9):Exit->Act->h->Prop
 |.normal,a,w=>EV P d J g (G (b.at a k) z) w
 |.exit id,a,w=>∃k',exitTo id k=je k'/\EV P d J g (G (b.at a k') z) w
 |.ret,a,w=>∀todo,EV P d J g (G { b.at a todo with mode:=.returning } z) w
 |_,_,_=>False
def Kk(fn:mf)(c:Code)(Q:Exit->Act->h->Prop)(a:Act)(w:h):Prop:=
 ∀b(k:List jc)z,b.fn=fn->b.kind=.normal->(∀e a' w',Q e a' w'->Xn P d J g b k z e a' w')->EV P d J g (G (b.at a (.code c::k)) z) w
def opsV(fn:mf)(ops:Array xe)(l:iO)(Q:Exit->Act->h->Prop)(a:Act)(w:h):Prop:=
 ∀b(k:List jc)z,b.fn=fn->b.kind=.normal->(∀e a' w',Q e a' w'->Xn P d J g b k z e a' w')->EV P d J g (G (b.at a (.inRegion ops l::k)) z) w
def Ba(f:mf)(args:iJ)(w:qi)(Fg:iP):Prop:=
 ∃fn c,P.funcs[f]? = je fn∧(fn.name == "runtime.NumGoroutine")=vy∧fn.body=je c∧∀fr cs,fr.mode=.run→(∀v w',Fg v w'→EV P d J g (G (fr.finish v) cs) w') →
  EV P d J g (G ((base f).at { tmps:=args++Array.replicate (fn.7 - args.size) re,defers:=[] } [.code c]) (fr :: cs)) w
end
section
variable {P:jd} {J:iH} {m:gy} {Q:Exit->Act->qi->Prop} {a:Act}
def EV.ctl(D:EV P main J N g' v)(Y:m.status=.running)(I:g'.status=.running)(h:∀n(w:qi),n.Fix P.globals.size->ui P main (Bt n m) w=.go (Bt n g') w):=
 EV.step Y λz d=>⟨g',v.at d,JS I (show Plain (v.at d) from z) h,D.at d⟩
theorem EV.ctlA{b:s9}{l q}(D:EV P main J N (G (b.at l q) z) v)(h:∀n(cs:List s9)w,n.Fix P.globals.size->ui P main (G (b.at (B9 n a) (k.map (Dh n))) cs) w=.go (G (b.at (B9 n l) (q.map (Dh n))) cs) w):EV P main J N (G (b.at a k) z) v:=
 EV.ctl D r r λn w p=>h n _ w p
theorem Xn.push{b x e}(Z:x.plain=jz)(c:e≠.normal)(h:Xn P main J N b k z e a w):Xn P main J N b (x::k) z e a w:=by cases e with|normal=>exact absurd r c|exit n=>have ⟨q,E,G⟩:=h;exact⟨q,by cases x<;>simp_all[exitTo,Item.plain],G⟩|ret=>exact h|goto l=>exact h|panic j=>exact h|outgrown=>exact h
def Fe{c}{d:Exit->Act->qi->Prop}(h:Kk P main J N f c Q a w)(b:∀e a w,Q e a w->d e a w):Kk P main J N f c d a w:=
 λg k z D E M=>h g k z D E λe l B q=>M e l B (b _ _ _ q)
def Bm(h:Q .normal a w):Kk P main J N f .skip Q a w:=λb k z _ _ M=>EV.ctlA (M _ _ _ h) λn cs w _=>stepG_skip
theorem Ca(h:Q .ret a w):Kk P main J N f .ret Q a w:=λb k z _ _ M=>EV.ctl (M _ _ _ h (.code .ret::k)) r r λn w _=>stepG_ret' (a:=B9 n a)
def Kd{b}(h:Q (.exit b) a w):Kk P main J N f (.exit b) Q a w:=λd k z _ _ M=>by have ⟨q,c,G⟩:=M _ _ _ h;exact EV.ctlA G λn cs w _=>stepG_exit (by rw[P1,c];rfl)
def Az(next:Act->h->Prop)(Q:Exit->Act->h->Prop):Exit->Act->h->Prop
 |.normal,a,w=>next a w
 |e,a,w=>Q e a w
theorem Av{x}(h:Kk P main J N f x (Az (Kk P main J N f y Q) Q) a w):Kk P main J N f (.seq x y) Q a w:=by intro b k z D E M;refine EV.ctlA (h b (.code y::k) z D E λe c B q=>?_) λn cs w _=>stepG_seq;cases e with|normal=>exact q b k z D E M|exit d=>exact(M _ _ _ q).push r Ae|ret=>exact(M _ _ _ q).push r Ae|goto l=>exact M _ _ _ q|panic j=>exact M _ _ _ q|outgrown=>exact M _ _ _ q
def A3{c x t}(M:a.eval c=.bool t)(h:Kk P main J N f (if t then x else y) Q a w)(E:E4 P.globals.size c=true:=by rfl):Kk P main J N f (.cond c x y) Q a w:=λb k z D d e=>EV.ctlA (h b k z D d e) λn cs w p=>stepG_cond (by rw[Jh p a c E,M];simp)
def As(id:Nat)(Q:Exit->Act->h->Prop):Exit->Act->h->Prop
 |.exit i,a,w=>if i=id then Q .normal a w else Q (.exit i) a w
 |e,a,w=>Q e a w
def D9{b c}(h:Kk P main J N f c (As b Q) a w):Kk P main J N f (.block b c) Q a w:=by intro d k z D E M;refine EV.ctlA (h d (.inBlock b::k) z D E λe o B q=>?_) λn cs w _=>stepG_block;cases e with|normal=>exact EV.ctlA (M _ _ _ q) λn cs w _=>stepG_inBlock|exit i=>simp[As]at q;by_cases V:i=b;rw[aL V]at q;exact⟨k,by simp[exitTo,V],M _ _ _ q⟩;rw[aO V]at q;have ⟨g,j,m⟩:=M _ _ _ q;exact⟨g,by simp[exitTo,dH V,j],m⟩|ret=>exact M _ _ _ q|goto l=>exact M _ _ _ q|panic p=>exact M _ _ _ q|outgrown=>exact M _ _ _ q
theorem Pk{c}{I:Nat->Act->qi->Prop}(Y:∀n a w,I n a w->Kk P main J N f c (Az (λa w=>∃m<n,I m a w) Q) a w){n}(h:I n a w):Kk P main J N f (.loop c) Q a w:=by intro b k z D E M;suffices H:∀n a w,I n a w->EV P main J N (G (b.at a (.code c::.inLoop c::k)) z) w from EV.ctlA (H n a w h) λn cs w _=>stepG_loop;intro n;induction n using Nat.strongRecOn with|_ n O=>intro a w h;refine Y n a w h b _ z D E λe g B q=>?_;cases e with|normal=>have ⟨m,L,o⟩:=q;exact EV.ctlA (O m L g B o) λn cs w _=>stepG_inLoop|exit d=>exact(M _ _ _ q).push r Ae|ret=>exact(M _ _ _ q).push r Ae|goto l=>exact M _ _ _ q|panic j=>exact M _ _ _ q|outgrown=>exact M _ _ _ q
def Qq{b g}(h:opsV P main J N f g (List.range g.size) Q a w):Kk P main J N f (.region b g vy) Q a w:=
 λc k z D E M=>EV.ctlA (h c k z D E M) λn cs w _=>stepG_region
def Au{g}(h:Q .normal a w):opsV P main J N f g [] Q a w:=
 λb k z D E M=>EV.ctlA (M _ _ _ h) λn cs w _=>stepG_region_end
def Og(n a d v):(B9 n a).put d (Z n v)=B9 n (a.put d v):=by cases d with|none=>rfl|some d=>show Act.mk ((a.1.map (Z n)).setIfInBounds d (Z n v)) _=Act.mk _ _;rw[Il];rfl
theorem Be{g}(O:g[i]?=je o)(W:jq o (yw g a.tmps)=vy)(h:opsV P main J N f g l Q (a.put o.dst re) w):opsV P main J N f g (i::l) Q a w:=λb k z D E M=>EV.ctlA (h b k z D E M) λn cs w _=>by have:=stepG_unwanted (P:=P) (main:=main) (b:=b) (rest:=l) (k:=k.map (Dh n)) (cs:=cs) (w:=w) O (by rwa[show(B9 n a).1=a.1.map _ from r,Gi]);have e:=Og n a o.1 re;rw[E7]at e;rwa[e]at this
def Yields(P:jd)(s:Sem tj)(w:h)(x:E)(w':h):Prop:=s.run P w=.ok (.value x) w'∨(s.run P w=.ok .skip w'/\x=re)
def VD{g c d e}(O:g[i]?=je o)(W:jq o (yw g a.tmps)=jz)(Y:∀n w,n.Fix P.globals.size->(lx (B9 n a).eval o).run P w=.ok (.enter c (d.map (Z n))) w)(h:∀n w,(lx (B9 n a).eval o).events P w #[]=#[])(H:Ba P main J N c d w e)(F:∀v B,e v B->opsV P main J N f g l Q (a.put o.dst v) B):opsV P main J N f g (i::l) Q a w:=by intro b k z D E M;obtain⟨t,u,C,s,m,j⟩:=H;(have q:∀v,(b.at a (.inRegion g (i::l)::k)).finish v=b.at (a.put o.1 v) (.inRegion g l::k):=λv=>by rw[Frame.finish_at,O];rfl);refine EV.ctl (j (b.at a (.inRegion g (i::l)::k)) z iW λv B r=>by rw[q];exact F v B r b k z D E M) iW iW λn w p=>?_;rw[E6,Hv];have U:yw g (B9 n a).1=yw g a.1:=Gi g a.1;have:=stepG_enter (P:=P) (main:=main) (b:=b) (a:=B9 n a) (k:=k.map (Dh n)) (cs:=z.map (Bp n)) (rest:=l) O (by rwa[U]) (by rw[E];decide) (Y n w p);rw[show List.map (Dh n) (.inRegion g (i::l)::k)=.inRegion g (i::l)::k.map (Dh n) from iW,this,Mp,enter_at _ C m,listed,h n w,seen_none];rfl
def IU{g b args m d}(O:g[i]?=je o)(W:jq o (yw g a.tmps)=jz)(T:o.op=.call { callee:=.value (.func b),args,argTypes:=m })(H:Ba P main J N b (args.map a.eval) w d)(F:∀v B,d v B->opsV P main J N f g l Q (a.put o.dst v) B)(E:args.all (E4 P.globals.size)=jz:=by rfl):opsV P main J N f g (i::l) Q a w:=by have ⟨r,c,C,s,h,_⟩:=H;have e:r.9.isNone=vy:=Adm;refine VD O W (λn w p=>?_) (λn w=>events_call_body T C s e _) H F;rw[run_call_body T C s e,Li (λx Z=>Jh p a x Z) args E]
def Bh{K c}{b:iJ}{d:p8→qi→Prop}{R:Array p8→p8}(I:P.funcs[f]? = je K)(s:(K.name == "runtime.NumGoroutine")=vy)(V:K.body=je c)(h:∀tmps w,(results K tmps).run P w=.ok (R tmps) w)(r:∀tmps w,(results K tmps).events P w #[]=#[])(j:Kk P main J N f c (λe a B=>(e=.normal∨e=.ret)∧a.defers = []∧d (R a.tmps) B) { tmps:=b++Array.replicate (K.ntmps - b.size) re,defers:=[] } w):Ba P main J N f b w d:=by refine⟨K,c,I,s,V,λX cs L F=>?_⟩;have k:∀i(a:Act)B,a.2 = []->d _ B->EV P main J N (G { (base f).at a i with mode:=.returning } (X :: cs)) B:=λi a B v Q=>EV.step iW λz g=>⟨_,B.at g,stepR_ret iW v iW I z (h _ _) (by rw[r];simp),(F _ _ Q).at g⟩;refine j _ [] _ iW iW λe l B⟨m,v,Q⟩=>?_;obtain rfl|rfl:=m;exact EV.ctl (k [] l B v Q) iW iW λn H _=>stepG_end (a:=B9 n l);exact λi=>k i l B v Q
end
def Fw.then{P a J}{b c:gy->qi->Prop}{g}(h:Fw P a J b g v)(z:∀g v,b g v->EV P a J c g v):Fw P a J c g v:=by obtain⟨T,h⟩:=h;induction T generalizing g v with|leaf=>exact z g v (h.2 v.3) h.1|node f O=>have ⟨Q,Y,h⟩:=h;refine Fw.step Q Y λd=>?_;have ⟨R,U,C,e⟩:=h d;grind
def Uk:Obj->Obj
 |.cells _ e fz=>.cells #[] e fz
 |o=>o
open Classical in
noncomputable def Bb(Bs:iG)(w:h):h:={ w with heap:=w.1.mapIdx λi o=>if Bs i then Uk o else o }
open Classical in
noncomputable def Cf(Bs:iG)(w u:h):h:={ u with heap:=u.1.mapIdx λi o=>if Bs i then(w.1[i]?).getD o else o }
def RowsIn(Bs:iG)(w:h):Prop:=∀i,Bs i->∃c e fz,w.1[i]?=je (.cells c e fz)
structure De(Bs:iG)(w u:qi):Prop where
 blank:∀i,Bs i->∃c e fz,w.1[i]?=je (.cells c e fz)/\u.1[i]?=je (.cells #[] e fz)
section
variable {u:qi}
open Classical in
theorem Ta(i):(Cf Bs w u).1[i]?=(u.1[i]?).map λo=>if Bs i then(w.1[i]?).getD o else o:=by rw[Cf];simp
def D7(h:De Bs w u)(V:Bs i):(Cf Bs w u).1[i]?=w.1[i]?:=by have ⟨c,e,b,C,J⟩:=h.1 i V;rw[Ta,J,aI,aL V,C];rfl
def Bz(V:¬Bs i):(Cf Bs w u).1[i]?=u.1[i]?:=by rw[Ta];grind
def Bn:(Cf Bs w u).1.size=iZ u.1:=by rw[Cf];simp
def B6(i):(Bb Bs w).1[i]?=(w.1[i]?).map λo=>@ite _ (Bs i) (Classical.propDecidable _) (Uk o) o:=by rw[Bb];simp
def Gs(h:RowsIn Bs w):De Bs w (Bb Bs w):=⟨λi V=>by have ⟨c,e,a,C⟩:=h i V;exact⟨c,e,a,C,by rw[B6,C,aI,aL V];rfl⟩⟩
theorem Jq(h:RowsIn Bs w):Cf Bs w (Bb Bs w)=w:=by (have e:(Cf Bs w (Bb Bs w)).1=w.1:=by apply bZ;intro i;by_cases V:Bs i;exact D7 (Gs h) V;rw[Bz V,B6];grind);cases w;simp[Cf,World.mk.injEq]at e⊢;exact⟨e,r,r,r,r⟩
def De.at(h:De Bs w u)(d):De Bs w (u.at d):=⟨h.blank⟩
def De.frame(h:De Bs w u){X}(f:Dd u O X):De Bs w O:=⟨λi V=>by have ⟨c,e,a,C,J⟩:=h.1 i V;have ⟨B,T,q⟩:=f.4 i _ _ _ J;grind⟩
def Vp{a}(h:¬Bs a.block):(Cf Bs w u).cell? a=u.cell? a:=by unfold yg;rw[Bz h]
def AN(h:De Bs w u){a}(V:Bs a.block):(Cf Bs w u).cell? a=w.cell? a:=by unfold yg;rw[D7 h V]
def AQ(h:De Bs w u){a}(V:Bs a.block):u.cell? a=zt:=by have ⟨c,e,b,C,J⟩:=h.1 _ V;rw[yg,J];simp
def Lp(h:De Bs w u){e}(N:Ig u e):(∀a,e.loc=.cell a->¬Bs a.block)/\(∀r,e.loc=.obj r->¬Bs r)/\Ig (Cf Bs w u) e:=by have ⟨l,wr,Y⟩:=e;cases l with|cell a=>have ⟨x,Z⟩:=N;(have z:¬Bs a.1:=λV=>by rw[AQ h V]at Z;cases Z);exact⟨λb e=>(by cases e;exact z),λr e=>M2,x,(by rwa[Vp z])⟩|obj r=>have ⟨o,O,M⟩:=N;(have z:¬Bs r:=λV=>by have ⟨c,e,d,C,J⟩:=h.1 _ V;rw[J]at O;cases O;exact M.1 _ _ _ iW);exact⟨λb e=>M2,λq e=>(by cases e;exact z),o,(by rwa[Bz z]),M⟩|mark m=>exact⟨λb e=>M2,λq e=>M2,N⟩|output=>exact N.elim|goroutines=>exact N.elim
def Iy(W:RowsIn Bs w)(h:De Bs w u)(Q:Plain u):Plain (Cf Bs w u):=λi o O=>by by_cases V:Bs i;rw[D7 h V]at O;have ⟨c,e,a,C⟩:=W i V;rw[C]at O;cases O;trivial;rw[Bz V]at O;exact Q i o O
def Uu(h:De Bs w u){X}(f:Dd u O X):Dd (Cf Bs w u) (Cf Bs w O) X:=by have P:=h.frame f;refine⟨by rw[Bn,Bn];exact f.1,λb d z=>?_,λr o a M z=>?_,λr c e g Y=>?_,λr o a M=>?_,f.6,f.7,f.8⟩;by_cases V:Bs b.1;rw[AN h V,AN P V];rw[Vp V,Vp V];exact f.2 b (by rwa[Bn]at d) z;by_cases V:Bs r;rw[D7 h V]at a;rwa[D7 P V];rw[Bz V]at a⊢;exact f.3 r o a M z;by_cases V:Bs r;rw[D7 h V]at Y;rw[D7 P V];exact⟨c,Y,iW⟩;rw[Bz V]at Y⊢;exact f.4 r c e g Y;by_cases V:Bs r;rw[D7 h V]at a;rw[D7 P V];grind;rw[Bz V]at a⊢;exact f.5 r o a M
end
section
variable {P:jd} {J:iH} {u:qi} {m:gy}
def Sm.hide{t x}(h:De Bs w u)(s:Sm n t J (Cf Bs w u) x):Sm n t J u x:=by refine⟨by have:=s.1;rwa[Bn]at this,by have:=s.2;rwa[Bn]at this,by have:=s.3;rwa[Bn]at this,λi o O=>?_,s.5,s.6,s.7,s.8⟩;by_cases V:Bs i;obtain⟨c,e,b,C,a⟩:=h.1 i V;rw[a]at O;cases O;obtain⟨I,G,K⟩:=s.4 i _ ((D7 h V).trans C);exact V8x;exact s.4 i o (by rwa[Bz V])
def Sm.show{t x d}(h:De Bs w u)(g:De Bs w O)(s:Sm n t J (Cf Bs w u) x)(v:Sm n t J O d){L:Array tw}(f:Dd x d (L.map (Lr n)))(b:∀e∈L,Ig O e):Sm n t J (Cf Bs w O) d:=by
 refine⟨by have:=v.1;rwa[←Bn (Bs:=Bs) (w:=w)]at this,by have:=v.2;rwa[←Bn (Bs:=Bs) (w:=w)]at this,by have:=v.3;rwa[←Bn (Bs:=Bs) (w:=w)]at this,λi o a=>?_,v.5,v.6,v.7,v.8⟩;by_cases V:Bs i;rw[D7 g V]at a;obtain⟨E,e,p,C,_⟩:=h.1 i V;rw[C]at a;cases a;obtain⟨I,G,K⟩:=s.4 i _ ((D7 h V).trans C);have P:∃B,I=.cells B e p:=by obtain rfl|⟨Q,B,S,R,m,rfl,_⟩|⟨_,z,_⟩|⟨B,S,R,m,rfl⟩:=K;exact⟨_,iW⟩;grind;exact absurd iW (z _ _ _);grind
 obtain⟨B,rfl⟩:=P;obtain⟨k,q,N⟩:=f.4 _ _ _ _ G;have:k=B:=bZ λj=>by have:=f.2 ⟨sh n i,j,zt⟩ (aJ.1 G).1 (λH r _ D=>by obtain⟨F,c,rfl⟩:=Array.mem_map.1 r;obtain⟨y,Z,_⟩:=Lp g (b F c);obtain⟨l,M,Y⟩:=F;cases l with|cell A=>simp[Lr,Ha,Loc.cell.injEq,Ew,Addr.mk.injEq]at D;exact y A iW (by rwa[Hk D.1])|_=>cases D);simpa[yg,q,G] using this
 grind;rw[Bz V]at a;exact v.4 i o a
def H0.over(W:RowsIn Bs w)(d:De Bs w u)(s:H0 P main J m u g' O):H0 P main J m (Cf Bs w u) g' (Cf Bs w O)/\De Bs w O:=by have ⟨X,a,K⟩:=s.3;have f:=d.frame a;refine⟨⟨s.1,Iy W f s.2,⟨X,Uu d a,λb N=>⟨(Lp f (K b N).1).2.2,(K b N).2⟩⟩,λn t x p g Z=>?_⟩,f⟩;rw[Bn]at g;have ⟨i,G,k,C,j,T,q,z⟩:=s.4 n t x p g (Z.hide d);exact⟨i,G,k,C,Z.show d f j T λb N=>(q b N).1,T,λb N=>⟨(Lp f (q b N).1).2.2,(q b N).2⟩,z⟩
theorem Fw.over{a:gy->qi->Prop}(W:RowsIn Bs w)(b:De Bs w u)(I:Fw P main J a m u):Fw P main J (λm x=>∃u,x=Cf Bs w u/\De Bs w u/\a m u) m (Cf Bs w u):=by obtain⟨T,I⟩:=I;induction T generalizing m u with|leaf=>exact⟨.leaf,Iy W b I.1,λd=>⟨u.at d,r,b.at d,I.2 d⟩⟩|node f O=>have ⟨Q,Y,I⟩:=I;refine Fw.step (Iy W b Q) Y λd=>?_;have ⟨g',U,C,c⟩:=I d;have ⟨e,q⟩:=C.over W (b.at d);exact⟨g',Cf Bs w U,e,O d q c⟩
theorem Nz{S}(k:XH P S)(I:S f)(W:RowsIn Bs w)(D:Lf J (Bb Bs w))(K:Qw J w.1.size){a:iJ}(j:S.reg f (ur P f a .normal).tmps){R:Ending->qi->Prop}(d:∀c v,¬R (.panicked c) v)(N:∀v,¬R .outgrown v)(H:∀v,Twin (Bb Bs w) v->Calls P f a v R):Ba P main J Stop f a w (λval x=>∃u U,x=Cf Bs w u/\De Bs w u/\Twin u U/\u.tape=w.tape/\R (.returned val) U):=by
 obtain⟨g,c,e,s,h,T⟩:=k f I;refine⟨g,c,e,s,h,λX cs L F Q=>?_⟩;have q:Plain (Bb Bs w):=λi o O=>by exact P8y
 have C:(Bb Bs w).1.size=iZ w.1:=by rw[Bb];simp
 have M:=Amz (main:=main) (Stop:=λm u=>∃val U,m=G (X.finish val) cs/\Twin u U/\u.2=w.2/\R (.returned val) U) (c0:=X) (cs0:=cs) k I q D (C▸K) j d N H (λval B U b E Y=>EV.stop λl=>⟨val,U,r,⟨b.1,b.2,b.3⟩,E,Y⟩);rw[enter_at _ e h]at M;have O:=M.over W (Gs W);rw[Jq W]at O;refine O.then λm x⟨u,Z,n,val,U,p,b,E,Y⟩=>?_;grind
end
def Ren.Ag(n m m':Ren):Prop:=∀i,sh n i=i->sh m i=sh m' i
section
variable {m:Ren}
def MT(h:n.Ag m q){a}(d:Ew n a=a):Ew m a=Ew q a:=by have ⟨b,f,s⟩:=a;simp[Ew,Addr.mk.injEq,and_true]at d⊢;exact h b d
def U4{f g R:a->a}{c:Array a}(M:c.map f=c)(h:∀y∈c,f y=y->g y=R y):c.map g=c.map R:=by grind
def YX(h:n.Ag m q){f}(I:Nv n f=f):Nv m f=Nv q f:=by cases f with|yield l=>simp[Nv,Fn.yield.injEq]at I⊢;exact h l I|_=>rfl
def Jl(h:n.Ag m q):(x:E)->A2 n x=x->A2 m x=A2 q x
 |.pointer a,Z=>by
  cases a with
  |none=>simp
  |some a=>simp[A8,aI,Value.pointer.injEq,aU]at Z⊢;exact MT h Z
 |.slice a l c,Z=>by
  cases a with
  |none=>simp
  |some a=>simp[Br,aI,Value.slice.injEq,aU,and_true]at Z⊢;exact MT h Z
 |.map r,Z=>by
  cases r with
  |none=>simp
  |some r=>simp[Dc,aI,Value.map.injEq,aU]at Z⊢;exact h r Z
 |.chan r,Z=>by
  cases r with
  |none=>simp
  |some r=>simp[Dg,aI,Value.chan.injEq,aU]at Z⊢;exact h r Z
 |.func f a b,Z=>by
  simp only[Ct,Value.func.injEq]at Z⊢;exact⟨YX h Z.1,U4 Z.2.1 λy U e=>Jl h y e,U4 Z.2.2 λy U e=>Jl h y e⟩
 |.iface t v,Z=>by
  simp[Ck,Value.iface.injEq,true_and]at Z⊢;exact Jl h v Z
 |.agg cs,Z=>by
  simp only[Cg,Value.agg.injEq]at Z⊢;exact U4 Z λy U e=>Jl h y e
 |.tuple cs,Z=>by
  simp only[Ci,Value.tuple.injEq]at Z⊢;exact U4 Z λy U e=>Jl h y e
 |.bool b,_=>j
 |.int k i,_=>j
 |.float k b,_=>j
 |.complex k x y,_=>j
 |.string s,_=>j
 |.nilFunc,_=>j
 |.nilIface,_=>j
end
section
variable {P:jd}
structure Dv where
 at_:mf->List Nat
 fn:Option mf
def Dv.cv(D:Dv):p8:=match D.fn with|some g=>.func (.func g) #[] #[]|none=>re
def VK(D:Dv)(fn f:mf)(args:Array jf):Bool:=
 (D.at_ f).all λj=>match args[j]? with
  |some (.tmp t)=>(D.at_ fn).contains t
  |some (.func g)=>D.fn==je g
  |some _=>vy
  |none=>jz
def Aeq(D:Dv)(fn:mf)(o:xe):Bool:=match o.dst with
 |some d=>!(D.at_ fn).contains d||(match o.op with|.move (.tmp t)=>(D.at_ fn).contains t|_=>vy)
 |none=>jz
def opS(P:jd)(S:mf->Bool)(D:Dv)(fn:mf)(o:xe):Bool:=Aeq D fn o&&match o.op with
 |.call c=>(match c.callee with
  |.value (.tmp t)=>c.args.all (E4 P.globals.size)&&(D.at_ fn).contains t
  |.value (.func f)=>opR P S o&&(GW P f||VK D fn f c.args)
  |_=>opR P S o)
 |_=>opR P S o
def Zl(D:Dv)(f:mf)(tmps:iJ):Prop:=∀j∈D.at_ f,tmps.getD j re=D.cv∨tmps.getD j re=re
def Jj(P:jd)(S:mf->Bool)(D:Dv)(fn:mf):Code->Bool
 |.skip=>jz
 |.region _ ops _=>ops.all (opS P S D fn)
 |.seq a b=>Jj P S D fn a&&Jj P S D fn b
 |.cond c a b=>(E4 P.globals.size c&&Jj P S D fn a)&&Jj P S D fn b
 |.block _ b=>Jj P S D fn b
 |.loop b=>Jj P S D fn b
 |.rangeFunc _ _ _ _=>vy
 |.exit _=>jz
 |.scope b=>Jj P S D fn b
 |.label _=>jz
 |.goto _=>jz
 |.ret=>jz
 |.refuse _=>vy
theorem BC{D}(h:Aeq D u o=jz)(a v)(Y:Zl D u a)(q:∀t,o.op=.move (.tmp t)->v=re∨v=a.getD t re):Zl D u (Ia o.dst v a):=by intro j l;have F:=Y j l;rw[Aeq]at h;unfold Ia;cases y:o.1 with|none=>exact F|some d=>rw[y]at h;dsimp only at h⊢;rw[cL]at F⊢;by_cases f:d=j;subst f;(have C:v=D.cv∨v=re:=by rw[cZ]at h;obtain h|h:=h;simp[l]at h;cases O:o.2 with|move x=>(rw[O]at h;cases x with|tmp t=>obtain e|e:=q t O;exact .inr e;rw[e];exact Y t HM|_=>cases h)|_=>rw[O]at h;cases h);rw[cF,aL r];grind;grind
def Amj(S:mf->Bool)(D:Dv):Prop:=∀g,D.fn=je g->S g=jz/\D.at_ g = []
def Agq{D g a}(h:VK D u g a=jz)(c:Zl D u X.tmps):Zl D g (ur P g (a.map X.eval) .normal).tmps:=by intro j l;rw[VK]at h;have C:=cV.1 h j l;(have F:∃b,(ur P g (a.map X.eval) .normal).2=a.map X.eval++b/\∀k,b.getD k re=re:=by rw[ur];cases G:P.2[g]? with|none=>grind|some O=>exact⟨_,iW,λk=>by rw[cL,Array.getElem?_replicate];split<;>rfl⟩);obtain⟨b,S,L⟩:=F;rw[S,cL];cases d:a[j]? with|none=>rw[eL (by simpa using(by simpa using d))];right;have:=L (j - (a.map X.eval).size);rwa[cL]at this|some x=>rw[dN (by simpa using((aJ.1 d).1)),aM,d];rw[d]at C;cases x with|tmp t=>exact c t (by simpa using C)|func r=>left;(have:D.2=je r:=by simpa using C);rw[Dv.cv,this];rfl|_=>cases C
def Oq(P:jd)(s:Sem tj):Prop:=∀v y v',s.run P v=.ok y v'->(∃x,y=.value x)∨y=.skip
def Oq.bind{s}{k:a->Sem tj}(h:∀b,Oq P (k b)):Oq P (s >>= k):=λv x U Y=>by rw[Sem.run_bind]at Y;cases C:s.run P v with|halt _ _=>simp_all|ok c t=>rw[C]at Y;exact h c t x U Y
theorem Oq.value(x):Oq P (th (.value x)):=λv y U Y=>by cases Y;exact .inl ⟨x,r⟩
theorem Oq.skip:Oq P (th .skip):=λv y U Y=>by cases Y;exact .inr r
def Oq.nev(h:Nev P s):Oq P s:=λv y U Y=>absurd Y (h.never v y U)
def Oq.okN{S}(h:Oq P s){y}(Y:s.run P v=.ok y U):OkN P S y:=by obtain⟨x,rfl⟩|rfl:=h v y U Y<;>trivial
def Af9(N:Ie P){D fn}(H:∀f,S f=jz→∃fn c,P.funcs[f]? = je fn∧(fn.name == "runtime.NumGoroutine")=vy∧fn.body=je c)(r:∀f,S f=jz→W f)(E:Amj S D)(F:opS P S D fn o=jz):Pl P ⟨W,Zl D⟩ fn o:=by
 unfold opS at F;rw[aQ]at F;obtain⟨b,h⟩:=F;have k:opR P S o=jz->∀n(X:s9),n.Fix P.globals.size->Rf P n (Ls n) (lx X.eval o) (lx (Bp n X).eval o):=λY n X p=>Ard p N H (λg=>rfl) (λv=>rfl) (λx Z=>Rg p X (Bp n X) iW x Z) Y;have a7:∀(X:s9)(c:Call)(g:mf),S g=jz->(xn g (#[]++c.2.map X.eval++#[]):Sem tj)=xn g (c.2.map X.eval):=λX c g _=>by rw[fY,eK]
 have body:∀(g:mf)(V:iJ)(v:qi)(y:tj)(U:qi),S g=jz->(xn g V).run P v=.ok y U->y=.enter g V:=λg V v y U G Y=>by obtain⟨O,cd,C,J,z⟩:=H g G;(have i:O.9.isNone=vy:=by rw[z];rfl);unfold xn at Y;have I:(match P.2[g]? with|none=>_|some fn=>_:Sem tj).run P v=.ok y U:=Y;rw[C]at I;simp only[J,i]at I;cases I;rfl
 have ext:∀(g:mf)(V:iJ)(v:qi)(y:tj)(U:qi),GW P g=jz->(xn g V).run P v=.ok y U->(∃x,y=.value x)∨y=.skip:=λg V v y U G Y=>by unfold GW at G;unfold xn at Y;cases C:P.2[g]? with| none=>rw[C]at G;cases G| some O=>rw[C]at G;simp only[aQ]at G;obtain⟨⟨i,A⟩,K⟩:=G;obtain⟨n0,F⟩:=Ua;obtain⟨L,R,e,e3,_⟩:=XX (P:=P) (n:=n0) (H:=λ_=>False) (F _) (fn:=O) (by simpa using A) (by simpa using K);have I:(match P.2[g]? with|none=>_|some fn=>_:Sem tj).run P v=.ok y U:=Y;rw[C]at I;simp only[R,i,L,e3,bV]at I;have s:Oq P (Go.mark (.extern g) >>= λ_=>e V >>= λx=>(th (lj x):Sem tj)):=Oq.bind λ_=>Oq.bind λx=>Oq.value x;exact s v y U I
 cases T:o.2 with| call c=>(rw[T]at h;dsimp only at h;(have Q:∀j,lx j o=ly j c o.3 >>= λd=>vb d.1 d.2:=λj=>by unfold lx;rw[T]);cases M:c.1 with| builtin u=>(rw[M]at h;refine⟨λn X p _=>k h n X p,λX v x U _ l Y=>Oq.okN ?_ Y,BC b⟩;rw[Q];unfold ly;rw[M];show Oq P (vb (.builtin u c.3 o.3 _) _);(have i:Tt P S c=jz:=by unfold opR at h;rwa[T]at h);unfold Tt at i;rw[M]at i;unfold vb builtin;cases u <;> first|(simp at i;done)|exact Oq.bind λx=>Oq.value x)| value f=>(rw[M]at h;cases f with| func g=>dsimp only at h;rw[aQ]at h;obtain⟨h,B⟩:=h;refine⟨λn X p _=>k h n X p,λX v x U a l Y=>?_,BC b⟩;(have i:Tt P S c=jz:=by unfold opR at h;rwa[T]at h);unfold Tt at i;rw[M,aQ]at i;rw[Q]at Y;unfold ly at Y;rw[M]at Y;have I:(xn g (#[]++c.2.map X.eval++#[])).run P v=.ok x U:=Y;rw[fY,eK]at I;by_cases G:S g=jz;rw[body g _ v x U G I];refine⟨r g G,?_⟩;rw[cZ]at B;rcases B with he|B;rcases ext g _ v x U he I with⟨y,q⟩|q <;> (rw[body g _ v x U G I]at q;cases q);exact Agq B a;rcases ext g _ v x U (by simpa[G] using i.2) I with⟨y,rfl⟩|rfl <;> trivial| tmp t=>dsimp only at h;rw[aQ]at h;obtain⟨ha,a1⟩:=h;have two:∀(X:s9),Zl D fn X.2->X.eval (.tmp t)=D.cv∨X.eval (.tmp t)=re:=λX a=>a t (by simpa using a1);refine⟨λn X p a=>?_,λX v x U a l Y=>?_,BC b⟩;rw[Q,Q];unfold ly;rw[M];show Rf P n (Ls n) (pt (X.eval (.tmp t)) (c.2.map X.eval) >>= λd=>vb d.1 d.2) (pt ((Bp n X).eval (.tmp t)) (c.2.map (Bp n X).eval) >>= λd=>vb d.1 d.2);rw[Rg p X (Bp n X) iW (.tmp t) iW,Li (λx Z=>Rg p X (Bp n X) iW x Z) c.2 ha];rcases two X a with e|e;rw[e];unfold Dv.cv;(cases m:D.2 with| none=>exact Rf.never (Eh (Db iW trivial))| some g=>obtain⟨G,_⟩:=E g m;dsimp only;rw[show A2 n (.func (.func g) #[] #[])=.func (.func g) #[] #[] by simp[Nv]];have s:=Zn (P:=P) (n:=n) p H g (c.2.map X.eval) (by simp[G]);show Rf P n (Ls n) (xn g (#[]++c.2.map X.eval++#[])) (xn g (#[]++(c.2.map X.eval).map (A2 n)++#[]));exact Ewc);rw[e];exact Rf.never (Eh (Db iW trivial));rw[Q]at Y;unfold ly at Y;rw[M]at Y;have I:(pt (X.eval (.tmp t)) (c.2.map X.eval) >>= λd=>vb d.1 d.2).run P v=.ok x U:=Y;rcases two X a with e|e;rw[e]at I;unfold Dv.cv at I;(cases m:D.2 with| none=>rw[m]at I;cases I| some g=>obtain⟨G,a6⟩:=E g m;rw[m]at I;rw[body g _ v x U G I];exact⟨r g G,λa8 w=>by rw[a6]at w;cases w⟩);rw[e]at I;cases I| _=>have i:Tt P S c=jz:=(by unfold opR at h;rwa[T]at h);unfold Tt at i;rw[M]at i;simp at i)| invoke aa nm=>rw[M]at h;(have i:Tt P S c=jz:=by unfold opR at h;rwa[T]at h);unfold Tt at i;rw[M]at i;simp at i)| _=>rw[T]at h;dsimp only at h;refine⟨λn X p _=>k h n X p,λX v x U _ l Y=>Oq.okN ?_ Y,BC b⟩;unfold opR at h;unfold lx;rw[T]at h⊢;dsimp only at h⊢;first|contradiction|exact Oq.value _|exact Oq.bind λx=>Oq.value x|exact Oq.bind λ_=>Oq.value _|exact Oq.bind λ_=>Oq.skip|exact Oq.bind λ_=>Oq.bind λ_=>Oq.value _|(split;all_goals first|exact Oq.nev (J8 _)|exact Oq.value _|(split;all_goals first|exact Oq.nev (J8 _)|exact Oq.value _|exact Oq.bind λ_=>Oq.bind λ_=>Oq.bind λ_=>Oq.value _|(refine Oq.bind λ_=>Oq.bind λ_=>?_;split;exact Oq.nev (Eh (Db iW trivial));exact Oq.value _)))
def An7(N:Ie P){S D}(H:∀f,S f=jz→∃u c,P.funcs[f]? = je u∧(u.name == "runtime.NumGoroutine")=vy∧u.body=je c)(e:∀f,S f=jz→W f)(E:Amj S D):∀{c},Jj P S D u c=jz→SX P ⟨W,Zl D⟩ u c:=by intro c;induction c with| region n d i=>exact λh j o g=>Af9 N H e E (dC.1 h o (cN g))| seq a b I C=>intro h;simp[Jj,aQ]at h;exact⟨I h.1,C h.2⟩| cond c a b I C=>intro h;simp[Jj,aQ]at h;exact⟨⟨h.1.1,I h.1.2⟩,C h.2⟩| block n b O=>exact λh=>O h| loop b O=>exact λh=>O h| scope b O=>exact λh=>O h| rangeFunc f k a b I C=>intro h;cases h| refuse s=>intro h;cases h| _=>intro _;trivial
def AU(P:jd)(L:List mf)(D:Dv)(f:mf):Bool:=
 match P.funcs[f]? with
 | some fn=>!(fn.name == "runtime.NumGoroutine") && (match fn.body with|some c=>Jj P (L.contains ·) D f c|none=>vy)
 | none=>vy
def noD:Dv:=⟨λ_=>[],zt⟩
def UM(P:jd)(L:List mf)(f:mf):Bool:=AU P L noD f
def XU(L:List mf)(D:Dv):Env:=⟨(·∈L),Zl D⟩
def env(L:List mf):Env:=XU L noD
def A5(f)(a:iJ):(env L).reg f a:=λj l=>by cases l
def YO(N:Ie P){D}(E:Amj (L.contains ·) D)(h:∀f∈L,AU P L D f=jz):XH P (XU L D):=by (have n:∀f,f∈L→∃u c,P.2[f]? = je u∧(u.1 == "runtime.NumGoroutine")=vy∧u.9=je c∧Jj P (L.contains ·) D f c=jz:=λf I=>by have:=h f I;rw[AU]at this;cases C:P.2[f]? with| none=>rw[C]at this;cases this| some u=>grind);intro f I;obtain⟨u,c,C,J,T,q⟩:=n f I;refine⟨u,c,C,J,T,An7 N (S:=(L.contains ·)) (λg G=>?_) (λg G=>by simpa using G) E q⟩;grind
def Aga(N:Ie P)(h:∀f∈L,UM P L f=jz):XH P (env L):=YO N (λg e=>M2) h
end
def Ren.one:Ren:=⟨id,λh=>h⟩
def Ren.up(M:Nat):Ren:=⟨λi=>if i<M then i else i+1,λ{i j} h=>by split at h<;>split at h<;>omega⟩
def I7(h:i<M):sh (.up M) i=i:=aL h
def Aru(h:M<=i):sh (.up M) i=i+1:=aO Aa
def Aig:sh (.up M) i=i↔i<M:=by rw[sh,Ren.up];simp only;split<;>omega
def Ren.one_fix(G):Ren.one.Fix G:=λ_ _=>rfl
def Ren.up_fixG{G}(h:G<=M):(Ren.up M).Fix G:=λi V=>I7 Aa
def XK{M m}(h:∀i<M,sh m i=sh q i):(Ren.up M).Ag m q:=λi V=>h i (Aig.1 V)
def DO{f:a->a}(c:Array a)(h:∀y∈c,f y=y):c.map f=c:=by grind
theorem Sd(i):sh .one i=i:=r
theorem BF(a):Ew .one a=a:=r
def QU(f):Nv .one f=f:=by cases f<;>rfl
def Fb:(x:E)->Z .one x=x
 |.pointer a=>by cases a<;>simp[BF]|.slice a l c=>by cases a<;>simp[BF]|.map r=>by cases r<;>simp[Sd]|.chan r=>by cases r<;>simp[Sd]|.func f a b=>by rw[Ct,QU,DO a λy U=>Fb y,DO b λy U=>Fb y]|.iface t v=>by rw[Ck,Fb v]|.agg cs=>by rw[Cg,DO cs λy U=>Fb y]|.tuple cs=>by rw[Ci,DO cs λy U=>Fb y]|.bool b=>j|.int k i=>j|.float k b=>j|.complex k x y=>j|.string s=>j|.nilFunc=>j|.nilIface=>j
def Rv{f:E->E}(h:∀x,f x=x)(c:iJ):=DO c λy _=>h y
def Ag7(t):Yl .one t=t:=by cases t<;>simp[Yl,QU,Rv Fb,Sd]
def Ws(d):Qh .one d=d:=by cases d;simp[Qh,Ag7,Rv Fb]
def LU{f:a->a}(l:List a)(h:∀y,f y=y):l.map f=l:=by
 conv=>rhs;rw[←fM l]
 exact cQ λy _=>h y
def Ag3(x):Jb .one x=x:=by cases x;simp[Jb,Fb]
def EE(o):Dr .one o=o:=by cases o with|cells c e f=>simp[Dr,Rv Fb]|pending c e=>simp[Dr,Rv Fb]|view a t=>simp[Dr,BF]|number a b=>simp[Dr,BF]|map X C=>simp[Dr];rw[DO X λy _=>Ag3 y]|chan I d x s r t=>simp[Dr,Rv Fb]|mapIter m g se h=>cases m<;>simp[Dr,Sd]|loop l=>cases l;simp[Dr,Rv Fb,Sd]|deferred cs=>(simp[Dr];cases cs with|none=>rfl|some l=>simp[LU l Ws])|finalizers L r=>simp[Dr];rw[DO L λy _=>by simp[Ws,Sd]]|_=>rfl
def Ag5(x):Dh .one x=x:=by cases x<;>simp[Dh,Ws,Rv Fb,Sd]
def Ag6(m):Kh .one m=m:=by cases m with|panicking c=>simp[Kh,Fb]|_=>rfl
def JG(X):Bp .one X=X:=by have ⟨a,b,c,d,e,f,g⟩:=X;simp[Bp,Rv Fb,LU c Ag5,LU d Ws,Ag6];cases g<;>simp[Sd]
def QX(g):Bt .one g=g:=by have ⟨a,b,c,d,e⟩:=g;simp[Bt,JG,LU b JG]
end Go.Pair
