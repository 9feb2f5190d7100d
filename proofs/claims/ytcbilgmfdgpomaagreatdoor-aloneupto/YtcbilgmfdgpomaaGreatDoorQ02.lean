import Derived.Test.YtcbilgmfdgpomaaGreatDoorQ01
open Array renaming size → iL,size → M
set_option maxHeartbeats 10000000
set_option linter.all false
open Option renaming some → lj,none → jh
open Go renaming Value → uo,TypeId → q9,Program → im,World → gk,Addr → lg,FloatKind → fw,MapEntry → po,Operand → zg,BinOp → N,IntKind → gy,Event → oy,TypeDesc → wj,Value → T,TypeId → Z,Addr → E,World → q,Program → I,Operand → O
open Bool renaming true → km,false → sd
open Go.Extern.BytealgIndexByte renaming indexByte → fu
open Go.Extern.BytealgCompare renaming compare → ow
open Go.Builtin renaming zeroCells → yp,unsafeAdd_ → ug,append_ → ry,delete_ → hh,copy_ → qo,firstCells → vg,min2 → xr,max2 → kp,min_ → nk,max_ → o5,len_ → zj,cap_ → zu,mayShare → jk
open Go.World renaming cell? → ur,shape? → uh
open Go.Extern.BytealgCount renaming count → zh
open Go.Extern.BytealgIndex renaming index → qv
open Go.Op renaming equal → ue,floatArith → jq,floatCmp → xx,complexOp → ku,stringOp → o6,equalIn → ic,shift → ud,eqGuardIn → o0,maxDepth → iq,intArith → xj
open Go.Conv renaming bytesToString → zb,floatToInt → ny,stringToBytes → o4,runesToString → sq
open Go.Extern.Bytes renaming loadBytes → jy,bytesOf → gg,asByte → ie
open Go.Op.Complex renaming sub → xu,mul → mn,add → zn,corrected → sj,quotient → mo,product → yn,arith → yf,conv → xl,cmp → yr
open Go.Next renaming value → w9
open Go.Deferred renaming ofValue → k9
variable {F:O->T}{H:gV}{L X:Array oy}{P:I}{U v w:q}{a b c d:Type}{cs z:gY}{e:oy}{i j r:Nat}{m:String}{p:Prop}{t:Z}{x y:T}
def Eji(h:p:=by
 cases o with
 |cells c a b=>exact absurd iI (z c a b)
 |_=>cases I with
  |cells c a b=>exact absurd iI (j c a b)
  |_=>rfl):p:=h
def Ndn(h:p:=by
 cases D:v.1[a.block]? with
 |none=>exact⟨_,iI,trivial⟩
 |some o=>
  have:=h _ _ D;cases o<;>first|exact⟨_,iI,trivial⟩|exact this.elim):p:=h
def Dn7(h:p:=by
 cases Instr.fill _ z.cells a.toList with
 |none=>exact Rf.stuck
 |some cs=>exact Rf.pure Ad):p:=h
def Pn6(h:p:=by
 rw[S];cases Instr.fill _ _ b.toList with
 |none=>exact Rf.stuck
 |some cs=>exact Rf.bind (Rf.newRow _ _) λ_=>Rf.pure Ad):p:=h
def C65(h:p:=by
 repeat' split
 all_goals first|exact Rf.bind (Rf.sizeOf _) λ_=>Rf.pure (by simp[Km])|exact Rf.unsup|exact Rf.bp):p:=h
def Bom(h:p:=by
 refine Rf.bind (Rf.firstCells _ _ _) λh=>?_;cases a with
 |none=>exact Rf.pure Ad
 |some i=>
  simp only[aI,bU];rw[←Km];exact Rf.bind (Rf.storeCells _ _ _) λ_=>Rf.pure Ad):p:=h
def Wnw(h:p:=by
 refine Rf.bind (Rf.typeInfo e) λT=>?_;simp only[id];split
 ·exact Rf.never (D7 (Jr _))
 ·refine Rf.bind (Rf.typeInfo e) λo=>?_;simp only[id];split
  ·exact Rf.never (D7 (Gk (P6 _ _ _ _ _) λ_=>by
    split
    ·exact Gk (Sw _) λ_=>Cu iI trivial
    ·exact Cu iI trivial))
  ·have b:=Rf.firstCells (P:=P) (n:=n) (H:=H) g l (.slice a l f);rw[Bm]at b;exact Rf.bind (Rf.choose _) λp=>Rf.bind (Rf.typeInfo e) λ_=>Rf.bind (Rf.askRoom _) λ_=>Rf.bind b λI=>Rf.bind (Rf.firstCells _ _ _) λh=>Rf.zeroCellsOf N e λz B=>Rf.bind (UX N _ _ _ _ B) λ_=>Rf.pure Ad):p:=h
def Lmf(h:p:=by
 exact Rf.bind (Rf.byteOf _) λ_=>Rf.bind (Rf.byteOf _) λ_=>Rf.pure iI):p:=h
def Puf(h:p:=by
 refine Rf.shapeThen r (λs=>?_) (λe=>.inr λm=>rfl);split
 ·exact Rf.pure iI
 ·refine Rf.getObjThen r (λo _=>?_) (λo I O G=>?_)
  ·cases o<;>exact Rf.pure iI
  ·obtain⟨_,_,_,_,_,_,rfl⟩:=Gx O;obtain⟨_,_,_,_,_,_,rfl⟩:=Gx G;exact Rf.pure iI):p:=h
def A9z(h:p:=by
 split<;>first|exact Rf.stuck|exact Rf.pure Ad):p:=h
def Tqo(h:p:=by
 refine Rf.ite (Rf.pure iI) (Rf.bind h λr=>?_);simp only[id];exact Rf.ite Rf.unsup (Rf.pure iI)):p:=h
def Th6(h:p:=by
 cases a with
 |none=>exact Rf.unsup
 |some a=>exact Rf.bind (Rf.behindNumber a) λ_=>Rf.addrMod _ _ _):p:=h
def Ybg(h:p:=by
 cases f
 case eql=>exact Rf.boolOf (h (.inl iI))
 case neq=>exact Rf.notOf (h (.inr iI))
 all_goals first|exact Rf.unsup|(cases b<;>exact Rf.unsup)):p:=h
def Sot(h:p:=by
 simp only[Cq,B0,B3,B1,Bc,B5,Bu,Bm,C9,Dg,Cn,Cf,Cc,Ce,A8]at h⊢;cases f
 case eql=>exact Rf.boolOf (h (.inl iI))
 case neq=>exact Rf.notOf (h (.inr iI))
 all_goals exact Rf.stuck):p:=h
def Bga(h:p:=by
 cases x with
 |int t i=>rw[B0];cases t<;>first|exact Rf.stuck|exact Rf.pure iI
 |_=>exact Rf.stuck):p:=h
def Pec(h:p:=by
 refine Rf.bind (Rf.underlying e) λd=>?_;simp only[id];cases d<;>first|exact Rf.stuck|exact Rf.pure M2):p:=h
def U37(h:p:=by
 cases y with
 |int q b=>rw[B0,B0];exact Rf.pure Ad
 |pointer b=>cases b<;>first|exact Rf.unsup|exact Rf.stuck
 |_=>exact Rf.stuck):p:=h
def Gan(h:p:=by
 dsimp only;generalize k.format.order a b=o;cases o with
 |none=>exact Rf.bind (Rf.choose _) λ_=>Rf.pure Ad
 |some o=>cases o<;>exact Rf.pure Ad):p:=h
def Pyg(h:p:=by
 cases y with
 |string b=>
  rw[Bc,Bc];exact Rf.bind (Rf.stringOp _ _ _) λr=>Rf.bind (Rf.asBool r) λb=>Rf.pure Ad
 |pointer b=>cases b<;>first|exact Rf.unsup|exact Rf.stuck
 |_=>exact Rf.stuck):p:=h
def Ewc(h:p:=by
 rwa[fP,eD,fP,eD]):p:=h
def Mxq(h:p:=by
 simp only[aU]at h;rw[B b h.1.1.1,B d h.1.1.2,B c h.1.2];exact IW (U7 p _ _ _ _ h.2)):p:=h
namespace Go.Pair
variable {S:FuncId→Bool}{o:Obj}{s:Sem Bool}
open Go Go.Conc
structure Ren where
 f:Nat->Nat
 inj:∀{i j},f i=f j->i=j
def Ren.Fix(n:Ren)(G:Nat):Prop:=∀i,i<G->n.f i=i
def sh(n:Ren)(i:Nat):Nat:=n.f i
def Gq{n}(h:sh n i=sh n j):=n.inj h
def Alx{n}:sh n i=sh n j↔i=j:=⟨Gq,λh=>by rw[h]⟩
def Ei(n:Ren)(a:E):E:={ a with block:=sh n a.block }
def Ah8{n a b}(h:Ei n a=Ei n b):a=b:=by
 cases a;cases b;simp only[Ei,Addr.mk.injEq]at h;simp only[Addr.mk.injEq];exact⟨Gq h.1,h.2⟩
def Km(n a k):Ei n (a.add k)=(Ei n a).add k:=by unfold Addr.add;split<;>rfl
def Mq(n:Ren):Fn->Fn
 |.yield l=>.yield (sh n l)
 |f=>f
def Az(n:Ren):T->T
 |.pointer a=>.pointer (a.map (Ei n))
 |.slice a l c=>.slice (a.map (Ei n)) l c
 |.map r=>.map (r.map (sh n))
 |.chan r=>.chan (r.map (sh n))
 |.func f a b=>.func (Mq n f) (a.map (Az n)) (b.map (Az n))
 |.iface t v=>.iface t (Az n v)
 |.agg cs=>.agg (cs.map (Az n))
 |.tuple vs=>.tuple (vs.map (Az n))
 |.bool b=>.bool b
 |.int k i=>.int k i
 |.float k b=>.float k b
 |.complex k x y=>.complex k x y
 |.string s=>.string s
 |.nilFunc=>.nilFunc
 |.nilIface=>.nilIface
section
variable (n:Ren)
@[simp] theorem A8(a):Az n (.pointer a)=.pointer (a.map (Ei n)):=by rw[Az]
@[simp] theorem Bm(a l c):Az n (.slice a l c)=.slice (a.map (Ei n)) l c:=by rw[Az]
@[simp] theorem C9(r):Az n (.map r)=.map (r.map (sh n)):=by rw[Az]
@[simp] theorem Dg(r):Az n (.chan r)=.chan (r.map (sh n)):=by rw[Az]
@[simp] theorem Cn(f a b):Az n (.func f a b)=.func (Mq n f) (a.map (Az n)) (b.map (Az n)):=by rw[Az]
@[simp] theorem Cf(t v):Az n (.iface t v)=.iface t (Az n v):=by rw[Az]
@[simp] theorem Cc(c):Az n (.agg c)=.agg (c.map (Az n)):=by rw[Az]
@[simp] theorem Ce(c):Az n (.tuple c)=.tuple (c.map (Az n)):=by rw[Az]
@[simp] theorem Cq(b):Az n (.bool b)=.bool b:=by rw[Az]
@[simp] theorem B0(k i):Az n (.int k i)=.int k i:=by rw[Az]
@[simp] theorem B3(k i):Az n (.float k i)=.float k i:=by rw[Az]
@[simp] theorem B1(k i j):Az n (.complex k i j)=.complex k i j:=by rw[Az]
@[simp] theorem Bc(s):Az n (.string s)=.string s:=by rw[Az]
@[simp] theorem B5:Az n .nilFunc=.nilFunc:=by rw[Az]
@[simp] theorem Bu:Az n .nilIface=.nilIface:=by rw[Az]
end
def Kc(n v):(Az n v).cells=v.cells.map (Az n):=by cases v<;>simp[Value.cells]
def Wn(n:Ren):Target->Target
 |.fn f c=>.fn (Mq n f) (c.map (Az n))
 |.collected r=>.collected (sh n r)
 |t=>t
def O5(n:Ren)(d:Deferred):Deferred:=⟨Wn n d.target,d.args.map (Az n)⟩
def Is(n:Ren)(x:po):po:=⟨Az n x.key,Az n x.val,x.born⟩
def Dq(n:Ren):Obj->Obj
 |.cells c e fz=>.cells (c.map (Az n)) e fz
 |.pending c e=>.pending (c.map (Az n)) e
 |.view a t=>.view (Ei n a) t
 |.number a b=>.number (Ei n a) b
 |.map es ck=>.map (es.map (Is n)) ck
 |.chan cap buf cl s r t=>.chan cap (buf.map (Az n)) cl s r t
 |.stringIter s p=>.stringIter s p
 |.mapIter m si se st=>.mapIter (m.map (sh n)) si se st
 |.loop l=>.loop { l with tmps:=l.tmps.map (Az n),defers:=sh n l.defers }
 |.deferred cs=>.deferred (cs.map (List.map (O5 n)))
 |.coro p=>.coro p
 |.finalizers fs r=>.finalizers (fs.map λx=>(sh n x.1,O5 n x.2)) r
def Ge(n:Ren):Loc->Loc
 |.cell a=>.cell (Ei n a)
 |.obj r=>.obj (sh n r)
 |l=>l
def Ky(n:Ren)(e:oy):oy:={ e with loc:=Ge n e.loc }
def Ff(J:gW)(e:oy):Prop:=J e.loc->(∃r,e.loc=.obj r)/\e.write=sd/\e.sync=km
def Ff.cell{J a x y}(h:Ff J ⟨.cell a,x,y⟩):¬J (.cell a):=λl=>by have ⟨⟨r,e⟩,_⟩:=h l;cases e
def Cl{J}(h:¬J e.loc):Ff J e:=λl=>absurd l h
def Cj(o:Obj):Prop:=∀c e fz,o≠.cells c e fz
def Gz{n}(h:Cj o):Cj (Dq n o):=by
 cases o with
 |cells c e a=>exact absurd iI (h c e a)
 |_=>exact λ_ _ _ e=>HL
def LikeO(n:Ren)(J:gW)(i:Nat)(o o':Obj):Prop:=
 o'=Dq n o ∨
 (∃c c' e fz,o=.cells c e fz/\o'=.cells c' e fz/\c'.size=c.size/\∀j,¬J (.cell (iD i j))->c'[j]?=(c[j]?).map (Az n)) ∨
 ((J (.obj i)/\o'.isChan=o.isChan)/\Cj o/\Cj o') ∨
 ∃c' e fz,o=.cells #[] e fz/\o'=.cells c' e fz
structure Sm(n t J)(v w:gk):Prop where
 top:∀j,iL v.1+j<t->sh n (iL v.1+j)=iL w.1+j
 lt:∀i,i<iL v.1->sh n i<iL w.1
 out:∀i,iL v.1<=i->iL w.1<=sh n i
 like:∀i(o:Obj),v.1[i]?=lj o->∃o',w.1[sh n i]?=lj o'/\LikeO n J i o o'
 tape:w.tape=v.tape
 drawn:w.drawn=v.drawn
 os:w.os=v.os
 output:w.output=v.output
structure Dd(w w':gk)(es:Array oy):Prop where
 size:iL w.1<=iL w'.1
 cell:∀a:lg,a.block<iL w.1->(∀e∈es,e.write=km->e.loc≠.cell a)->w'.cell? a=w.cell? a
 obj:∀r(o:Obj),w.1[r]?=lj o->Cj o->(∀e∈es,e.write=km->e.loc≠.obj r)->w'.1[r]?=lj o
 row:∀(r:Nat)(c:gY)e(fz:Nat×Nat),w.1[r]?=lj (.cells c e fz)->∃c',w'.1[r]?=lj (.cells c' e fz)/\c'.size=c.size
 nrow:∀(r:Nat)o,w.1[r]?=lj o->Cj o->∃o',w'.1[r]?=lj o'/\Cj o'/\o'.isChan=o.isChan
 tape:w'.tape=w.tape
 os:w'.os=w.os
 output:w'.output=w.output
def Dd.refl(w X):Dd w w X:=⟨aC _,λ_ _ _=>rfl,λ_ _ h _ _=>h,λ_ c _ _ h=>⟨c,h,iI⟩,λ_ o h z=>⟨o,h,z,iI⟩,iI,iI,iI⟩
def Dd.trans{a b c}(h:Dd a b X)(P:Dd b c L):Dd a c (X++L):=by
 refine⟨aE h.size P.size,λx Z z=>?_,λr o O M z=>(P.obj r o (h.obj r o O M λe N=>z e (by simp[N])) M λe N=>z e (by simp[N])),λr x e d Y=>?_,λr o O M=>?_,P.tape.trans h.tape,P.os.trans h.os,P.output.trans h.output⟩
 ·rw[P.cell x (aA Z h.size) λe N=>z e (by simp[N]),h.cell x Z λe N=>z e (by simp[N])]
 ·have ⟨g,S,l⟩:=h.row r x e d Y;have ⟨H,f,R⟩:=P.row r g e d S
  grind
 ·have ⟨K,S,J,i⟩:=h.5 r o O M;have ⟨I,f,u,k⟩:=P.5 r K S J
  grind
def Dd.mono{a b}(h:Dd a b X)(s:∀e∈X,e.write=km->e∈L):Dd a b L:=
 ⟨h.size,λx Z z=>h.cell x Z λe N W=>z e (s e N W) W,λr o O M z=>h.obj r o O M λe N W=>z e (s e N W) W,h.row,h.5,h.tape,h.os,h.output⟩
def Vv(h:Array Obj)(o i):(h.push o)[i]?=if i=h.size then lj o else h[i]?:=by
 rw[Array.getElem?_push]
def heap_setCell(v:q)(a x i):(v.setCell a x).1[i]?=if i=a.block then(v.1[i]?).map (fun|.cells c b frozen=>.cells (if a.3.isSome then c else c.setIfInBounds a.off x) b frozen|o=>o) else v.1[i]?:=by
 unfold World.setCell
 grind
def size_setCell(v:q)(a x):(v.setCell a x).1.size=M v.1:=by simp[World.setCell]
def Plain(v:q):Prop:=∀(i:Nat)o,v.1[i]?=lj o->Qf o
def Tf{v}(h:Plain v)(O:Qf o):Plain { v with heap:=v.1.push o }:=by
 intro i x Z;simp only[Vv]at Z;split at Z
 ·grind
 ·exact h i x Z
def Kk(h:Plain v)(a x):Plain (v.setCell a x):=by
 intro i o O;rw[heap_setCell]at O;split at O
 ·obtain⟨y,U,rfl⟩:=bB.1 O;have:=h _ _ U;cases y<;>simp_all[Qf]
 ·exact h i o O
def HB:Halt->Prop
 |.stuck _=>True
 |.unsupported (.initOrder _)=>False
 |.unsupported _=>True
 |.panic _=>True
 |_=>False
def R0{P}(h:Plain v)(a b):∃x,v.farLoad P a b=.error x/\HB x:=by
 unfold World.farLoad World.noCell;exact Ndn
def P4{P}(h:Plain v)(a x b):∃y,v.farStore P a x b=.error y/\HB y:=by
 unfold World.farStore World.noCell;exact Ndn
section
variable {n:Ren} {t:Nat} {J:gW} {e:q}
def Sm.cell(h:Sm n t J v e){a x}(M:v.cell? a=lj x)(l:¬J (.cell a)):e.cell? (Ei n a)=lj (Az n x):=by
 have ⟨i,j,s⟩:=a;unfold ur at M⊢
 show(match e.1[sh n i]? with|some (.cells c _ _)=>if s.isSome then jh else c[j]?|_=>jh)=_;cases q:v.1[i]? with
 |none=>simp[q]at M
 |some o=>
  have ⟨I,G,K⟩:=h.4 i o q;rw[G];simp only[q]at M;cases o with
  |cells c S r=>
   cases s with
   |some s=>simp at M
   |none=>
    simp only[eR,aR,bR]at M⊢;rcases K with rfl|⟨Q,B,b,R,L,rfl,d,U⟩|⟨_,z,_⟩|D
    ·simp[Dq,M]
    ·grind
    ·exact absurd iI (z c S r)
    grind
  |_=>simp at M
def Sm.frozen(h:Sm n t J v e)(d)(f:d.block<M v.1):e.frozen? (Ei n d)=v.frozen? d:=by
 unfold World.frozen?
 show(match e.1[sh n d.block]? with|some (.cells _ _ (s,V))=>decide _&&decide _|_=>sd)=_;have q:=aO f;generalize v.1[d.block]=o at q;have ⟨I,G,K⟩:=h.4 _ o q;rw[q,G];rcases K with rfl|⟨Q,B,S,R,rfl,rfl,_⟩|⟨_,z,j⟩|⟨B,E,H,rfl,rfl⟩
 ·cases o<;>rfl
 ·rfl
 ·exact Eji
 ·rfl
def Sm.obj(h:Sm n t J v e){r o}(O:v.1[r]?=lj o)(M:Cj o)(Y:¬J (.obj r)):e.1[sh n r]?=lj (Dq n o):=by
 have ⟨I,G,K⟩:=h.4 r o O;rcases K with rfl|⟨Q,B,S,R,rfl,_⟩|⟨l,_⟩|⟨B,E,H,rfl,rfl⟩
 ·exact G
 ·exact absurd iI (M Q S R)
 ·exact absurd l.1 Y
 ·exact absurd iI (M _ _ _)
def Ob(n o):(Dq n o).isChan=o.isChan:=by cases o<;>rfl
def Sm.objAny(h:Sm n t J v e)(O:v.1[r]?=lj o)(M:Cj o):∃I,e.1[sh n r]?=lj I/\Cj I/\I.isChan=o.isChan/\(¬J (.obj r)->I=Dq n o):=by
 have ⟨I,G,K⟩:=h.4 r o O;refine⟨I,G,?_⟩;rcases K with rfl|⟨Q,B,S,R,rfl,_⟩|⟨l,_,z⟩|⟨B,E,H,rfl,rfl⟩
 ·exact⟨Gz M,Ob n o,λ_=>rfl⟩
 ·exact absurd iI (M Q S R)
 ·grind
 ·exact absurd iI (M _ _ _)
def Sm.drew(h:Sm n t J v e):Sm n t J { v with drawn:=v.drawn+1 } { e with drawn:=e.drawn+1 }:=⟨h.top,h.lt,h.out,h.4,h.tape,by rw[h.drawn],h.os,h.output⟩
def Sm.at(h:Sm n t J v e)(d):Sm n t J (v.at d) (e.at d):=⟨h.top,h.lt,h.out,h.4,h.tape,iI,h.os,h.output⟩
def Sm.push(h:Sm n t J v e)(R:M v.1<t)(o):Sm n t J { v with heap:=v.1.push o } { e with heap:=e.1.push (Dq n o) }:=by
 have F:sh n v.1.size=M e.1:=by simpa using h.top 0 (by simpa using R)
 refine⟨λj l=>?_,λi V=>?_,λi V=>?_,λi x Z=>?_,h.tape,h.drawn,h.os,h.output⟩
 ·simp only[Array.size_push]at l⊢;have:=h.top (1+j) Aa
  grind
 ·simp only[Array.size_push]at V⊢;by_cases a:i=M v.1
  ·subst a;omega
  ·have:=h.lt i Aa;omega
 ·simp only[Array.size_push]at V⊢;have C:=h.out i Aa;have b:sh n i≠M e.1:=λa=>by have:=Gq (a.trans F.symm);omega
  omega
 ·simp only[Vv]at Z⊢;by_cases a:i=M v.1
  ·subst a;rw[aL iI]at Z;obtain rfl:=aB Z;exact⟨_,by rw[aL F],.inl iI⟩
  ·rw[aM a]at Z;have K:=h.lt i (aG.1 Z).1;obtain⟨I,G,E⟩:=h.4 i x Z
   grind
def Sm.setCell(h:Sm n t J v e){a}(M:v.cell? a=lj y)(x):Sm n t J (v.setCell a x) (e.setCell (Ei n a) (Az n x)):=by
 obtain⟨d,f,s⟩:=a;refine⟨by rw[size_setCell,size_setCell];exact h.top,by rw[size_setCell,size_setCell];exact h.lt,by rw[size_setCell,size_setCell];exact h.out,λi o O=>?_,h.tape,h.drawn,h.os,h.output⟩;rw[heap_setCell]at O;rw[heap_setCell];by_cases b:i=d
 ·subst b;have L:(Ei n ⟨i,f,s⟩).block=sh n i:=iI;simp only[bQ,L]at O⊢;unfold ur at M;cases q:v.1[i]? with
  |none=>simp[q]at O
  |some p=>
   obtain⟨u,X,K⟩:=h.4 i p q;simp only[q]at M;rw[q,aI]at O;obtain rfl:=aB O;cases p with
   |cells c S r=>
    cases s with
    |some s=>simp at M
    |none=>
     simp only[eR,aR,bR]at M;refine⟨_,by rw[X,aI],?_⟩;rcases K with rfl|⟨Q,B,m,R,g,rfl,k,U⟩|⟨_,z,_⟩|D
     ·left;simp[Dq,Ei]
     ·cases g
      right;left
      refine⟨_,_,_,_,iI,iI,by simpa[Ei] using k,λj l=>?_⟩;simp only[Ei,eR,aR,bR,bY,k];split
      ·split<;>simp
      ·exact U j l
     ·exact absurd iI (z _ _ _)
     ·obtain⟨B,E,H,D,rfl⟩:=D;cases D;simp at M
   |_=>simp at M
 ·rw[aM b]at O;have:¬sh n i=(Ei n ⟨d,f,s⟩).block:=λc=>b (Gq c);rw[aM this];exact h.4 i o O
def Sm.set(h:Sm n t J v e){r p}(Q:v.1[r]?=lj p)(o):Sm n t J { v with heap:=v.1.setIfInBounds r o } { e with heap:=e.1.setIfInBounds (sh n r) (Dq n o) }:=by
 have Y:=(aG.1 Q).1;refine⟨by simpa using h.top,by simpa using h.lt,by simpa using h.out,λi x Z=>?_,h.tape,h.drawn,h.os,h.output⟩;simp only[bY]at Z⊢;by_cases a:r=i
 ·subst a;rw[aL iI,aL Y]at Z;obtain rfl:=aB Z;exact⟨_,by rw[aL iI,aL (h.lt r Y)],.inl iI⟩
 ·rw[aM a]at Z;rw[aM λc=>a (Gq c)];exact h.4 i x Z
def Zs(w o):Dd w { w with heap:=w.1.push o } #[]:=by
 have I:∀i,i<M w.1->(w.1.push o)[i]?=w.1[i]?:=λi V=>Aj;have lt:∀{i} {x},w.1[i]?=lj x->i<M w.1:=λh=>(aG.1 h).1;refine⟨Ad,λa d _=>?_,λr x Z _ _=>(I r (lt Z)).trans Z,λr c e b Z=>⟨c,(I r (lt Z)).trans Z,iI⟩,λr x Z z=>⟨x,(I r (lt Z)).trans Z,z,iI⟩,iI,iI,iI⟩;unfold ur;simp only[I _ d]
def Gd(w a x b):Dd w (w.setCell a x) #[⟨.cell a,km,b⟩]:=by
 refine⟨Nat.le_of_eq (size_setCell w a x).symm,λc M z=>?_,λr o O z _=>?_,λr c e g Y=>?_,λr o O z=>?_,iI,iI,iI⟩
 ·have f:c≠a:=λe=>z ⟨.cell a,km,b⟩ Ad iI (by rw[e]);unfold ur;rw[heap_setCell];by_cases e:c.block=a.block
  ·rw[aL e];cases w.1[c.block]? with
   |none=>rfl
   |some o=>
    cases o with
    |cells d S g=>
     simp only[aI];cases j:c.3 with
     |some s=>simp
     |none=>
      cases i:a.3 with
      |some s=>simp
      |none=>
       have:a.off≠c.off:=λL=>f (by cases c;cases a;simp_all)
       grind
    |_=>rfl
  ·rw[aM e]
 ·rw[heap_setCell];split
  ·rw[O];cases o with
   |cells c e g=>exact absurd iI (z c e g)
   |_=>rfl
  ·exact O
 ·rw[heap_setCell];split
  ·rw[Y];refine⟨_,iI,?_⟩;split<;>simp
  ·exact⟨c,Y,iI⟩
 ·rw[heap_setCell];split
  ·rw[O];cases o with
   |cells c e g=>exact absurd iI (z c e g)
   |_=>exact⟨_,iI,z,iI⟩
  ·exact⟨o,O,z,iI⟩
def Li(w){p}(Q:w.1[r]?=lj p)(M:Cj p)(o)(O:Cj o)(b)(z:o.isChan=p.isChan):Dd w { w with heap:=w.1.setIfInBounds r o } #[⟨.obj r,km,b⟩]:=by
 refine⟨Ad,λa d _=>?_,λi x Z g N=>?_,λi c e f Z=>?_,λi x Z g=>?_,iI,iI,iI⟩
 ·unfold ur;simp only[bY];by_cases e:r=a.block
  ·subst e;rw[aL iI,aL ((aG.1 Q).1),Q];cases o with
   |cells c e f=>exact absurd iI (O c e f)
   |_=>cases p with
    |cells c e f=>exact absurd iI (M c e f)
    |_=>rfl
  ·rw[aM e]
 ·simp_all
 ·refine⟨c,?_,iI⟩
  show(w.1.setIfInBounds r o)[i]?=_;rw[bY];split
  ·rename_i e;subst e;rw[Q]at Z;obtain rfl:=aB Z;exact absurd iI (M _ _ _)
  ·exact Z
 grind
def Ow(w k):Dd w { w with drawn:=k } #[]:=⟨aC _,λ_ _ _=>rfl,λ_ _ h _ _=>h,λ_ c _ _ h=>⟨c,h,rfl⟩,λ_ o h z=>⟨o,h,z,rfl⟩,rfl,rfl,rfl⟩
end
def Ajs:Mark->Prop
 |.noRoom=>True
 |.extern _=>True
 |_=>False
def Hk(v:q)(e:oy):Prop:=
 match e.loc with
 |.cell a=>∃x,v.cell? a=lj x
 |.obj r=>∃o,v.1[r]?=lj o/\Cj o/\(o.isChan=km->e.write=sd/\e.sync=km)
 |.mark m=>Ajs m
 |_=>False
def Hk.frame{v}(h:Hk v e)(f:Dd v U X):Hk U e:=by
 unfold Hk at *;split at h
 ·have ⟨x,Z⟩:=h;rename_i a _;unfold ur at Z⊢;cases q:v.1[a.block]? with
  |none=>simp[q]at Z
  |some o=>
   simp only[q]at Z;cases o with
   |cells c e b=>
    have ⟨B,n,s⟩:=f.row _ _ _ _ q
    grind
   |_=>simp at Z
 ·have ⟨o,O,z,M⟩:=h;have ⟨I,C,J,T⟩:=f.5 _ _ O z
  grind
 ·exact h
 ·exact h
def Hd(H:gV)(v:q):Prop:=∀r,H r->∀o,v.1[r]?=lj o->Cj o/\o.isChan=sd
def Hd.frame{v:gk}(h:Hd H v)(K:∀r,H r->r<v.1.size)(f:Dd v U X):Hd H U:=λr Y o O=>by
 have F:=aO (K r Y);have ⟨C,J⟩:=h r Y _ F;have ⟨I,T,q,z⟩:=f.5 r _ F C
 grind
structure Db(H){α β}(P n)(f:α->β)(s:Sem α)(t:Sem β):Prop where
 monoH:∀v a v',Plain v->(Hd H v/\∀r,H r->r<iL v.1)->s.run P v=.ok a v'->Plain v'/\Dd v v' (s.events P v #[])/\∀e∈s.events P v #[],Hk v' e
 haltsH:∀v h v',Plain v->(Hd H v/\∀r,H r->r<iL v.1)->s.run P v=.halt h v'->HB h
 simH:∀J t0 v w,Sm n t0 J v w->Plain v->(Hd H v/\∀r,H r->r<iL v.1)->(∀e∈s.events P v #[],Ff J e)->∀a v',s.run P v=.ok a v'->iL v'.1<=t0 ->
  ∃w',t.run P w=.ok (f a) w'/\t.events P w #[]=(s.events P v #[]).map (Ky n)/\Sm n t0 J v' w'/\Dd w w' (t.events P w #[])
abbrev Rf{α β}(P:I)(n:Ren)(f:α->β)(s:Sem α)(t:Sem β):Prop:=Db (λ_=>False) P n f s t
def GX(v):Hd iH v/\∀r,False->r<M v.1:=⟨λ_ h=>h.elim,λ_ h=>h.elim⟩
def Rf.mono{n}{f:a->b}{s t}(h:Rf P n f s t):∀v c U,Plain v->s.run P v=.ok c U->Plain U/\Dd v U (s.events P v #[])/\∀e∈s.events P v #[],Hk U e:=λv c U Q=>h.1 v c U Q (GX v)
def Rf.halts{n}{f:a->b}{s t}(h:Rf P n f s t):∀v x U,Plain v->s.run P v=.halt x U->HB x:=λv x U Q=>h.2 v x U Q (GX v)
def Rf.sim{n}{f:a->b}{s t}(h:Rf P n f s t):∀J u v w,Sm n u J v w->Plain v->(∀e∈s.events P v #[],Ff J e)->∀c U,s.run P v=.ok c U->M U.1<=u ->
  ∃B,t.run P w=.ok (f c) B/\t.events P w #[]=(s.events P v #[]).map (Ky n)/\Sm n u J U B/\Dd w B (t.events P w #[]):=λJ u v w d Q=>h.3 J u v w d Q (GX v)
section
variable {n:Ren}
def Ex{s}{k:b->Sem a}{t x}(h:s.run P v=.ok x t):(s >>= k).events P v #[]=s.events P v #[]++(k x).events P t #[]:=by
 rw[Sem.events_bind,h,Result.evThen_ok,Sem.events_acc]
def Rf.bind{f:b->c}{g:a->d}{s t}{k:b->Sem a}{q:c->Sem d}(i:Db H P n f s t)(E:∀h,Db H P n g (k h) (q (f h))):Db H P n g (s >>= k) (t >>= q):=by
 have o:∀{v} {h} {U},(s >>= k).run P v=.ok h U->∃x e,s.run P v=.ok x e/\(k x).run P e=.ok h U:=λ{v h U} Y=>by
  rw[Sem.run_bind]at Y;cases C:s.run P v with
  |halt i w=>simp_all
  |ok x e=>rw[C]at Y;exact⟨x,e,iI,Y⟩
 refine⟨λv h U Q p Y=>?_,λv x U Q p Y=>?_,λJ u v w T Q p O h U Y R=>?_⟩
 rotate_left
 ·rw[Sem.run_bind]at Y;cases C:s.run P v with
  |halt y w=>rw[C]at Y;cases Y;exact i.2 v _ _ Q p C
  |ok y e=>
   rw[C]at Y;obtain⟨m,D,_⟩:=i.1 v y e Q p C;exact(E y).2 e x U m ⟨p.1.frame p.2 D,λr Y=>aA (p.2 r Y) D.size⟩ Y
 rotate_left
 ·obtain⟨x,e,C,l⟩:=o Y;obtain⟨m,D,B⟩:=i.1 v x e Q p C;obtain⟨I,K,Z⟩:=(E x).1 e h U m ⟨p.1.frame p.2 D,λr Y=>aA (p.2 r Y) D.size⟩ l;rw[Ex C];exact⟨I,D.trans K,λj N=>(cC.1 N).elim (λN=>(B j N).frame K) (Z j)⟩
 ·obtain⟨x,e,C,l⟩:=o Y;obtain⟨m,z,_⟩:=i.1 v x e Q p C;have F:Hd H e/\∀r,H r->r<iL e.1:=⟨p.1.frame p.2 z,λr Y=>aA (p.2 r Y) z.size⟩;obtain⟨I,W,_⟩:=(E x).1 e h U m F l;rw[Ex C]at O⊢;obtain⟨G,S,L,V,D⟩:=i.3 J u v w T Q p (λj N=>O j (cC.2 (.inl N))) x e C (aE W.size R);obtain⟨M,a1,X,A,K⟩:=(E x).3 J u e G V m F (λj N=>O j (cC.2 (.inr N))) h U l R;refine⟨M,?_,?_,A,?_⟩
  ·rwa[Sem.run_bind,S]
  ·rw[Ex S,L,X,dC]
  ·rw[Ex S];exact D.trans K
def Rf.pure{f:b->c}{a d}(h:d=f a):Db H P n f (Pure.pure a:Sem b) (Pure.pure d):=by
 refine⟨λv x U Q p Y=>?_,λv x U Q p Y=>(by cases Y),λJ u v w s Q p O x U Y R=>?_⟩
 ·cases Y;exact⟨Q,.refl _ _,Ad⟩
 ·cases Y;subst h;exact⟨w,iI,Ad,s,.refl _ _⟩
def Rf.programIn{g:a->d}{k:I->Sem a}{q:I->Sem d}(h:Db H P n g (k P) (q P)):Db H P n g (Go.program >>= k) (Go.program >>= q):=⟨λv b U Q p Y=>h.1 v b U Q p Y,λv x U Q p Y=>h.2 v x U Q p Y,λJ u v w s Q p O b U Y R=>h.3 J u v w s Q p O b U Y R⟩
def Aiz(P:I)(s:Sem b):Prop:=∀v a v',s.run P v≠.ok a v'
def Kp(P:I)(s:Sem b):Prop:=∀v h v',s.run P v=.halt h v'->HB h
structure Nev(P)(s:Sem b):Prop where
 never:Aiz P s
 halts:Kp P s
def Rf.never{f:b->c}{s t}(h:Nev P s):Db H P n f s t:=⟨λv a U _ _ Y=>absurd Y (h.never v a U),λv x U _ _ Y=>h.halts v x U Y,λJ u v w d Q p O x U Y=>absurd Y (h.never v x U)⟩
def Cu{s:Sem b}{h}(e:s=.halt h)(D:HB h):Nev P s:=by
 subst e;exact⟨λv a U Y=>(by cases Y),λv x U Y=>(by cases Y;exact D)⟩
def Rf.stuck{f:b->c}{t}:Db H P n f (Go.stuck m) t:=Rf.never (Cu iI trivial)
def Rf.unsup{f:b->c}{m t}(h:HB (.unsupported m):=by exact trivial):Db H P n f (Go.unsupported m) t:=Rf.never (Cu iI h)
def Hw(a):Kp P (Pure.pure a:Sem b):=λv h U Y=>by cases Y
def Hv{s}{k:b->Sem a}(h:Kp P s)(E:∀c,Kp P (k c)):Kp P (s >>= k):=λv x U Y=>by
 rw[Sem.run_bind]at Y;cases C:s.run P v with
 |halt _ _=>rw[C]at Y;cases Y;exact h _ _ _ C
 |ok y t=>rw[C]at Y;exact E y t x U Y
def Kg:Kp P Go.program:=λv h U Y=>by cases Y
def Ue(o):Kp P (Go.newObj o):=λv h U Y=>by simp_all
def Oy(q):Kp P (Go.choose q):=λv h U Y=>by simp only[Go.choose,Sem.run]at Y;split at Y<;>cases Y
def Sw(m):Kp P (Go.mark m):=λv h U Y=>by cases Y
def Gk{s}{k:b->Sem a}(d:Kp P s)(h:∀c,Nev P (k c)):Nev P (s >>= k):=⟨λv x U Y=>by
 rw[Sem.run_bind]at Y;cases C:s.run P v with
 |halt _ _=>simp_all
 |ok y t=>rw[C]at Y;exact(h y).never t x U Y,Hv d λc=>(h c).halts⟩
def D7{s}{k:b->Sem a}(h:Nev P s):Nev P (s >>= k):=by
 have n:∀v,∃x t,s.run P v=.halt x t:=λv=>by
  cases C:s.run P v with
  |halt x t=>exact⟨x,t,iI⟩
  |ok y t=>exact absurd C (h.never v y t)
 refine⟨λv x U Y=>?_,λv x U Y=>?_⟩
 ·have ⟨y,t,C⟩:=n v
  simp_all
 ·have ⟨y,t,C⟩:=n v;rw[Sem.run_bind,C]at Y;cases Y;exact h.halts _ _ _ C
def P7:Kp P (Go.stuck m:Sem b):=(Cu (h:=.stuck m) iI trivial).halts
def Zw(t):Kp P (Go.typeInfo t):=Hv Kg λp=>by
 cases p.info? t with
 |none=>exact P7
 |some i=>exact Hw _
def GV(t):Kp P (Go.elemOf t):=by
 refine Hv ((by
    refine Hv Kg λp=>?_;cases p.underlying t with
    |none=>exact P7
    |some i=>exact Hw _)) λd=>?_
 cases d<;>first|exact Hw _|exact P7
def Jr(e):Nev P (Go.runtimePanic e:Sem b):=by
 refine Gk Kg λp=>?_;split
 all_goals first
  |exact Cu iI trivial
  |exact Gk _ λ_=>Cu iI trivial
  |exact Gk _ λ_=>Cu iI trivial
  |exact Gk (GV _) λ_=>Gk (Hv (Ue _) λ_=>Hw _) λ_=>Cu iI trivial
def Rf.rt{f:b->c}{e t}:Db H P n f (Go.runtimePanic e) t:=Rf.never (Jr e)
def Rf.bp{f:b->c}{k x y a t}:Db H P n f (Go.boundsPanic k x y a) t:=Rf.never ((by
   unfold Go.boundsPanic;split
   ·exact Gk (by exact Hv (Oy _) λ_=>Hw _) λ_=>Jr _
   ·exact Gk (Hw _) λ_=>Jr _))
def VC{m a}{k:T->Sem b}{r}(Q:Plain v)(h:(Sem.load m a k).run P v=.ok r U):∃x,v.cell? a=lj x:=by
 cases q:v.cell? a with
 |some x=>exact⟨x,iI⟩
 |none=>
  have ⟨x,Z,_⟩:=R0 (P:=P) Q a (m==.atomic);simp[Sem.run,q,Z]at h
def Rf.load(a m):Db H P n (Az n) (Go.load a m) (Go.load (Ei n a) m):=by
 refine⟨λv x b Q p Y=>?_,(λv h b Q p Y=>by
  cases q:v.cell? a with
  |some x=>simp_all
  |none=>
   obtain⟨y,U,D⟩:=R0 (P:=P) Q a (m==.atomic)
   simp_all),λJ u v w s Q p O x b Y R=>?_⟩
 ·obtain⟨y,U⟩:=VC Q Y;simp only[Go.load,Sem.run,U]at Y;cases Y;exact⟨Q,.refl _ _,by simp[-Sem.runT_eq,Go.load,Sem.events,Sem.runT,U,Hk]⟩
 ·obtain⟨y,U⟩:=VC Q Y;have d:∀w(a:E)z,w.cell? a=lj z->(Go.load a m).events P w #[]=#[⟨.cell a,sd,m==.atomic⟩]:=λw a z N=>by simp_all
  rw[d v a y U]at O⊢;have W:=s.cell U ((O _ (dW.2 iI)).cell);simp only[Go.load,Sem.run,U]at Y;cases Y;exact⟨w,by simp_all,by rw[d w _ _ W];simp[Ky,Ge],s,.refl _ _⟩
def Alb(n){x}(h:∀c,x≠.agg c)(P:∀c,x≠.tuple c):(∀c,Az n x≠.agg c)/\∀c,Az n x≠.tuple c:=by
 cases x<;>simp_all
def run_store{m a}{k:Sem b}(M:v.cell? a=lj y)(I:v.frozen? a=sd)(h:∀c,x≠.agg c)(d:∀c,x≠.tuple c)(X):(Sem.store m a x k).run P v=k.run P (v.setCell a x)/\(Sem.store m a x k).runT P v X=k.runT P (v.setCell a x) (X.push ⟨.cell a,km,m==.atomic⟩):=by
 cases x<;>simp_all[-Sem.runT_eq,Sem.run,Sem.runT]
def ML{m a k}{r:b}(Q:Plain v)(h:(Sem.store m a x k).run P v=.ok r U):(∃y,v.cell? a=lj y)/\v.frozen? a=sd/\(∀c,x≠.agg c)/\∀c,x≠.tuple c:=by
 have ⟨y,d,_⟩:=P4 (P:=P) Q a x (m==.atomic);cases M:v.cell? a with
 |none=>cases x<;>simp[Sem.run,M,d]at h
 |some z=>
  cases I:v.frozen? a with
  |true=>cases x<;>simp[Sem.run,M,I]at h
  |false=>exact⟨⟨z,iI⟩,iI,λc e=>by subst e;simp[Sem.run]at h,λc e=>by subst e;simp[Sem.run]at h⟩
def Ki{a}(h:v.cell? a=lj y):a.block<M v.1:=by
 unfold ur at h
 grind
def Rf.store(a x m):Db H P n id (Go.store a x m) (Go.store (Ei n a) (Az n x) m):=by
 have g:∀w(a:E)x y,w.cell? a=lj y->w.frozen? a=sd->(∀c,x≠.agg c)->(∀c,x≠.tuple c)->(Go.store a x m).events P w #[]=#[⟨.cell a,km,m==.atomic⟩]:=λw a x y M I h k=>by
  unfold Go.store Sem.events;rw[(run_store M I h k #[]).2];simp[-Sem.runT_eq,Sem.runT]
 refine⟨λv z e Q p Y=>?_,(λv h e Q p Y=>by
  obtain⟨y,U,D⟩:=P4 (P:=P) Q a x (m==.atomic);cases M:v.cell? a with
  |none=>cases x<;>(simp only[Go.store,Sem.run,M,U]at Y;cases Y;first|exact D|exact trivial)
  |some z=>
   cases I:v.frozen? a<;>cases x<;>(simp[Go.store,Sem.run,M,I]at Y)<;>(obtain⟨rfl,_⟩:=Y;exact trivial)),λJ u v w s Q p O z e Y R=>?_⟩
 ·obtain⟨⟨y,U⟩,I,C,d⟩:=ML Q Y;rw[g v a x y U I C d];unfold Go.store at Y;rw[(run_store U I C d #[]).1]at Y;cases Y;have X:=Gd v a x (m==.atomic);refine⟨Kk Q a x,X,λi N=>?_⟩;obtain rfl:=dW.1 N;exact Hk.frame (v:=v) (show Hk v ⟨.cell a,km,m==.atomic⟩ from⟨y,U⟩) X
 ·obtain⟨⟨y,U⟩,I,C,d⟩:=ML Q Y;rw[g v a x y U I C d]at O⊢;have W:=s.cell U ((O _ (dW.2 iI)).cell);have b:w.frozen? (Ei n a)=sd:=by rwa[s.frozen a (Ki U)]
  have f:=Alb n C d;unfold Go.store at Y;rw[(run_store U I C d #[]).1]at Y;cases Y;refine⟨w.setCell (Ei n a) (Az n x),?_,by rw[g w _ _ _ W b f.1 f.2];simp[Ky,Ge],s.setCell U x,?_⟩
  ·unfold Go.store;rw[(run_store W b f.1 f.2 #[]).1];rfl
  ·rw[g w _ _ _ W b f.1 f.2];exact Gd w _ _ _
def Rf.newObj{o}(h:Qf o):Db H P n (sh n) (Go.newObj o) (Go.newObj (Dq n o)):=by
 refine⟨λv z U Q p Y=>?_,(λv h U Q p Y=>Ue o v h U Y),λJ u v w s Q p O z U Y R=>?_⟩
 ·have b:(Go.newObj o).events P v #[]=#[]:=Ad;cases Y;exact⟨Tf Q h,Zs v o,Ad⟩
 ·have b:∀w(o:Obj),(Go.newObj o).events P w #[]=#[]:=λw o=>Ad;cases Y;have e:M v.1<u:=by simp at R;omega
  have F:sh n v.1.size=M w.1:=by simpa using s.top 0 (by simpa using e)
  refine⟨{ w with heap:=w.1.push _ },by simp_all,Ad,s.push e o,?_⟩;exact Zs w _
def Th{p}(O:w.1[r]?=lj p)(z:Cj p):(Go.getObj r).run P w=.ok p w/\(Go.getObj r).events P w #[]=#[⟨.obj r,sd,p.isChan⟩]:=by
 cases p with
 |cells c e j=>exact absurd iI (z c e j)
 |_=>simp[-Sem.runT_eq,Go.getObj,Sem.run,Sem.events,Sem.runT,O]
def EK{x}(Y:(Go.getObj r).run P v=.ok x U):v.1[r]?=lj x/\Cj x/\U=v:=by
 cases q:v.1[r]? with
 |none=>simp[Go.getObj,Sem.run,q]at Y
 |some o=>
  cases o with
  |cells c e b=>simp[Go.getObj,Sem.run,q]at Y
  |_=>simp only[Go.getObj,Sem.run,q]at Y;cases Y;exact⟨iI,λ_ _ _ e=>by(cases e),iI⟩
def Gx(h:o.isChan=km):∃a b c d e f,o=.chan a b c d e f:=by
 cases o with
 |chan a b c d e f=>grind
 |_=>cases h
def Rf.getObjThen{f:a->d}{k:Obj->Sem a}{q:Obj->Sem d}(r)(E:∀o,o.isChan=sd->Db (λi=>H i∨i=r) P n f (k o) (q (Dq n o)))(M:∀o I,o.isChan=km->I.isChan=km->Db H P n f (k o) (q I)):Db H P n f (Go.getObj r >>= k) (Go.getObj (sh n r) >>= q):=by
 have g:∀{v} {o},(Hd H v/\∀i,H i->i<iL v.1)->v.1[r]?=lj o->Cj o->o.isChan=sd->Hd (λi=>H i∨i=r) v/\∀i,(H i∨i=r)->i<iL v.1:=λ{v o} b O hn z=>
  ⟨λi V A Q=>V.elim (λm=>b.1 i m A Q) λe=>Aj,λi V=>V.elim (b.2 i) λe=>Aj⟩
 have p:∀{v} {c} {U},(Go.getObj r >>= k).run P v=.ok c U->∃o,v.1[r]?=lj o/\Cj o/\(k o).run P v=.ok c U:=λ{v c U} Y=>by
  rw[Sem.run_bind]at Y;cases C:(Go.getObj r).run P v with
  |halt m w=>simp_all
  |ok x F=>
   rw[C]at Y;obtain⟨j,T,rfl⟩:=EK C
   simp_all
 refine⟨λv c U Q b Y=>?_,λv x U Q b Y=>?_,λJ u v w s Q b O c U Y R=>?_⟩
 ·obtain⟨o,C,j,T⟩:=p Y;obtain⟨X,G⟩:=Th (P:=P) C j;have h:Plain U/\Dd v U ((k o).events P v #[])/\∀e∈(k o).events P v #[],Hk U e:=by
   cases z:o.isChan with
   |false=>exact(E o z).1 v c U Q (g b C j z) T
   |true=>exact(M o o z z).1 v c U Q b T
  obtain⟨K,t,L⟩:=h;rw[Ex X,G];refine⟨K,(Dd.refl v _).trans t,λe N=>(cC.1 N).elim (λN=>?_) (L e)⟩;obtain rfl:=dW.1 N;exact Hk.frame (v:=v) (show Hk v ⟨.obj r,sd,o.isChan⟩ from⟨o,C,j,λe=>⟨iI,e⟩⟩) t
 ·rw[Sem.run_bind]at Y;cases C:(Go.getObj r).run P v with
  |halt a1 w=>
   rw[C]at Y;cases Y;cases y:v.1[r]? with
   |none=>simp only[Go.getObj,Sem.run,y]at C;cases C;exact trivial
   |some o=>cases o<;>(simp only[Go.getObj,Sem.run,y]at C;cases C)<;>exact trivial
  |ok o F=>
   rw[C]at Y;obtain⟨j,T,rfl⟩:=EK C;cases z:o.isChan with
   |false=>exact(E o z).2 _ x U Q (g b j T z) Y
   |true=>exact(M o o z z).2 _ x U Q b Y
 ·obtain⟨o,C,j,T⟩:=p Y;obtain⟨X,G⟩:=Th (P:=P) C j;rw[Ex X,G]at O⊢;obtain⟨I,S,W,Z,e4⟩:=s.objAny C j;obtain⟨D,f2⟩:=Th (P:=P) S W;have h:∃B,(q I).run P w=.ok (f c) B/\(q I).events P w #[]=((k o).events P v #[]).map (Ky n)/\Sm n u J U B/\Dd w B ((q I).events P w #[]):=by
   cases z:o.isChan with
   |false=>
    have l:¬J (.obj r):=λl=>by
     have:=(O ⟨.obj r,sd,o.isChan⟩ Ad l).2.2;rw[z]at this;cases this
    rw[e4 l];exact(E o z).3 J u v w s Q (g b C j z) (λe N=>O e (cC.2 (.inr N))) c U T R
   |true=>exact(M o I z (Z.trans z)).3 J u v w s Q b (λe N=>O e (cC.2 (.inr N))) c U T R
  obtain⟨B,k1,k2,k3,k4⟩:=h;refine⟨B,?_,?_,k3,?_⟩
  ·rwa[Sem.run_bind,D]
  ·rw[Ex D,f2,k2,Z,dC];simp[Ky,Ge]
  ·rw[Ex D];exact(Dd.refl w _).trans k4
def Rf.setObj{o}(h:Qf o)(M:Cj o)(d:o.isChan=sd)(r)(Y:H r):Db H P n id (Go.setObj r o) (Go.setObj (sh n r) (Dq n o)):=by
 have k:∀{v U} {x},(Go.setObj r o).run P v=.ok x U->(∃p,v.1[r]?=lj p/\Cj p)/\U = { v with heap:=v.1.setIfInBounds r o }:=λ{v U x} Y=>by
  cases q:v.1[r]? with
  |none=>simp[Go.setObj,Sem.run,q]at Y
  |some p=>
   cases p with
   |cells c e j=>simp[Go.setObj,Sem.run,q]at Y
   |_=>simp only[Go.setObj,Sem.run,q]at Y;cases Y;exact⟨⟨_,iI,λ_ _ _ e=>by(cases e)⟩,iI⟩
 have f:∀w(r:Nat)o p,w.1[r]?=lj p->Cj p->(Go.setObj r o).run P w=.ok () { w with heap:=w.1.setIfInBounds r o }/\(Go.setObj r o).events P w #[]=#[⟨.obj r,km,o.isChan⟩]:=λw r o p O z=>by
  cases p with
  |cells c e j=>exact absurd iI (z c e j)
  |_=>simp[-Sem.runT_eq,Go.setObj,Sem.run,Sem.events,Sem.runT,O]
 refine⟨λv a U Q g F=>?_,(λv h U Q g Y=>by
  cases q:v.1[r]? with
  |none=>simp_all
  |some o=>cases o<;>(simp only[Go.setObj,Sem.run,q]at Y;cases Y)<;>exact trivial),λJ u v w s Q g O a U F R=>?_⟩
 ·obtain⟨⟨p,C,b⟩,rfl⟩:=k F;rw[(f v r o p C b).2];refine⟨(by
     intro i x Z;simp only[bY]at Z;split at Z
     ·grind
     ·exact Q i x Z),Li v C b o M _ (d.trans (g.1 r Y p C).2.symm),λe N=>?_⟩
  obtain rfl:=dW.1 N;exact⟨o,by simp[(aG.1 C).1],M,λe=>by rw[d]at e;cases e⟩
 ·obtain⟨⟨p,C,b⟩,rfl⟩:=k F;rw[(f v r o p C b).2]at O⊢;have W:=s.obj C b (λl=>by have:=(O _ (dW.2 iI) l).2.1;cases this);have I:=f w _ (Dq n o) _ W (Gz b);have V:(Dq n o).isChan=o.isChan:=Ob n o;refine⟨_,I.1,by rw[I.2,V];simp[Ky,Ge],s.set C o,?_⟩;rw[I.2];exact Li w W (Gz b) _ (Gz M) _ (by rw[V,Ob,d,(g.1 r Y p C).2])
def Rf.choose(q):Db H P n id (Go.choose q) (Go.choose q):=by
 have b:∀w,(Go.choose q).events P w #[]=#[]:=λw=>Ad;refine⟨λv z U Q p Y=>?_,(λv h U Q p Y=>Oy q v h U Y),λJ u v w s Q p O z U Y R=>?_⟩
 ·rw[b];simp only[Go.choose,Sem.run]at Y;split at Y
  ·cases Y;exact⟨Q,.refl _ _,Ad⟩
  ·cases Y;exact⟨Q,Ow v _,Ad⟩
 ·rw[b,b];simp only[Go.choose,Sem.run]at Y⊢;rw[s.tape,s.drawn];split at Y
  ·rename_i f;cases Y;exact⟨w,by rw[aL f];rfl,Ad,s,.refl _ _⟩
  ·rename_i f;cases Y;have C:=s.drew;rw[s.drawn]at C;refine⟨_,by rw[aM f];rfl,Ad,?_,?_⟩
   ·rwa[s.tape]at C
   ·rw[←s.tape];exact Ow w _
def Rf.program:Db H P n id Go.program Go.program:=⟨λv z U Q p Y=>by cases Y;exact⟨Q,.refl _ _,Ad⟩,λv h U Q p Y=>Kg v h U Y,λJ u v w s Q p O z U Y R=>by cases Y;exact⟨w,iI,Ad,s,.refl _ _⟩⟩
def Rf.mark{m}(L:Ajs m):Db H P n id (Go.mark m) (Go.mark m):=⟨λv z U Q p Y=>by cases Y;exact⟨Q,.refl _ _,by simp[-Sem.runT_eq,Go.mark,Sem.events,Sem.runT,Hk,L]⟩,λv h U Q p Y=>Sw m v h U Y,λJ u v w s Q p O z U Y R=>by cases Y;exact⟨w,iI,by simp[-Sem.runT_eq,Go.mark,Sem.events,Sem.runT,Ky,Ge],s,.refl _ _⟩⟩
def Rf.noRoom:Db H P n id (Go.mark .noRoom) (Go.mark .noRoom):=Rf.mark trivial
def Rf.map{f:b->c}{s t}{g:b->a}{R:c->d}{h:a->d}(i:Db H P n f s t)(j:∀e,R (f e)=h (g e)):Db H P n h (g <$> s) (R <$> t):=by
 exact Rf.bind i λe=>Rf.pure (j e)
def Sm.shape{t J}(h:Sm n t J v w)(r):w.shape? (sh n r)=v.shape? r∨∃a m,v.shape? r=lj (a,0)/\w.shape? (sh n r)=lj (a,m):=by
 unfold uh;cases q:v.1[r]? with
 |none=>
  have C:=Array.getElem?_eq_none_iff.2 (h.out r (Array.getElem?_eq_none_iff.1 q))
  grind
 |some o=>
  obtain⟨I,G,K⟩:=h.4 r o q;rw[G];rcases K with rfl|⟨c,B,a,b,rfl,rfl,s,_⟩|⟨_,z,j⟩|⟨B,a,b,rfl,rfl⟩
  ·left;cases o<;>simp[Dq]
  ·left;simp[s]
  ·left
   exact Eji
  grind
def Rf.shapeThen{f:a->d}{k:Option (Z×Nat)->Sem a}{q:Option (Z×Nat)->Sem d}(r)(E:∀x,Db H P n f (k x) (q x))(F:∀e,Aiz P (k (lj (e,0)))∨∀m,q (lj (e,m))=q (lj (e,0))):Db H P n f (Go.shape r >>= k) (Go.shape (sh n r) >>= q):=by
 have b:∀w r {a} (k:Option (Z×Nat)->Sem a),(Go.shape r >>= k).events P w #[]=(k (w.shape? r)).events P w #[]:=λw r {a} k=>Ad;refine⟨λv z U Q p Y=>by exact(E _).1 v z U Q p Y,λv h U Q p Y=>(E (v.shape? r)).2 v h U Q p Y,λJ u v w s Q p O z U Y R=>?_⟩;rw[b,b];have I:(k (v.shape? r)).run P v=.ok z U:=Y;have e:q (w.shape? (sh n r))=q (v.shape? r):=by
  rcases s.shape r with e|⟨e,m,S,L⟩
  ·rw[e]
  ·rcases F e with h|h
   ·rw[S]at I;exact absurd I (h _ _ _)
   grind
 rw[e];obtain⟨B,C,i⟩:=(E _).3 J u v w s Q p O z U I R;refine⟨B,?_,i⟩
 simp_all
end
section
variable {n:Ren}
def Rf.askRoom(k):Db H P n id (Go.askRoom k) (Go.askRoom k):=by
 unfold Go.askRoom;split
 ·exact Rf.noRoom
 ·exact Rf.pure iI
def Rf.typeInfo(t):Db H P n id (Go.typeInfo t) (Go.typeInfo t):=Rf.bind Rf.program λp=>by
 simp only[id];split
 ·exact Rf.pure iI
 ·exact Rf.stuck
def Rf.underlying(t):Db H P n id (Go.underlying t) (Go.underlying t):=Rf.bind Rf.program λp=>by
 simp only[id];split
 ·exact Rf.pure iI
 ·exact Rf.stuck
def Rf.sizeOf(t):Db H P n id (Go.sizeOf t) (Go.sizeOf t):=Rf.bind (Rf.typeInfo t) λ_=>Rf.pure iI
def Rf.isAgg(t):Db H P n id (Go.isAgg t) (Go.isAgg t):=Rf.bind (Rf.underlying t) λd=>by
 simp only[id];split<;>exact Rf.pure iI
def Rf.newRow(e)(c:gY):Db H P n (Ei n) (Go.newRow e c) (Go.newRow e (c.map (Az n))):=Rf.bind (Rf.newObj (o:=.cells c e) trivial) λ_=>Rf.pure iI
def Rf.newVar(e x):Db H P n (Ei n) (Go.newVar e x) (Go.newVar e (Az n x)):=by
 unfold Go.newVar;rw[Kc];exact Rf.newRow _ _
def Rf.loadCellsFrom(a):∀k i(D:gY),Db H P n (Array.map (Az n)) (Go.loadCellsFrom a i k D) (Go.loadCellsFrom (Ei n a) i k (D.map (Az n)))
 |0,_,_=>Rf.pure iI
 |k+1,i,D=>by
  unfold Go.loadCellsFrom;rw[←Km];refine Rf.bind (Rf.load _ _) λx=>?_;rw[←Array.map_push];exact Rf.loadCellsFrom a k _ _
def Rf.loadCells(a k):Db H P n (Array.map (Az n)) (Go.loadCells a k) (Go.loadCells (Ei n a) k):=by
 have:=Rf.loadCellsFrom (P:=P) (n:=n) (H:=H) a k 0 #[];unfold Go.loadCells;simpa using this
def Rf.storeCells(a):∀(b:gZ)i,Db H P n id (Go.storeCells a b i) (Go.storeCells (Ei n a) (b.map (Az n)) i)
 |[],_=>Rf.pure iI
 |x::b,i=>by
  unfold Go.storeCells;rw[←Km];exact Rf.bind (Rf.store _ _ _) λ_=>Rf.storeCells a b _
def Rf.loadVar(t a):Db H P n (Az n) (Go.loadVar t a) (Go.loadVar t (Ei n a)):=Rf.bind (Rf.isAgg t) λb=>by
 simp only[id];split
 ·exact Rf.bind (Rf.sizeOf _) λ_=>Rf.bind (Rf.loadCells _ _) λ_=>Rf.pure Ad
 ·exact Rf.load _ _
def Rf.storeVar(t a x):Db H P n id (Go.storeVar t a x) (Go.storeVar t (Ei n a) (Az n x)):=Rf.bind (Rf.sizeOf t) λk=>by
 simp only[id];rw[Kc,gI];split
 ·exact Rf.bind (f:=id) Rf.stuck λ_=>by rw[bU];exact Rf.storeCells _ _ _
 ·exact Rf.bind (f:=id) (Rf.pure iI) λ_=>by rw[bU];exact Rf.storeCells _ _ _
def Rf.part(t)(cs:gY)(off):Db H P n (Az n) (Go.part t cs off) (Go.part t (cs.map (Az n)) off):=Rf.bind (Rf.isAgg t) λb=>by
 simp only[id];split
 ·exact Rf.bind (Rf.sizeOf _) λ_=>Rf.pure Ad
 ·rw[aN];cases cs[off]? with
  |none=>exact Rf.stuck
  |some x=>exact Rf.pure iI
def Rf.asIntOf(x):Db H P n id (Go.asIntOf x) (Go.asIntOf (Az n x)):=by
 cases x with
 |int k i=>rw[B0];exact Rf.pure iI
 |pointer a=>cases a<;>first|exact Rf.stuck|exact Rf.unsup
 |_=>exact Rf.stuck
def Rf.asInt(x):Db H P n id (Go.asInt x) (Go.asInt (Az n x)):=Rf.bind (Rf.asIntOf x) λ_=>Rf.pure iI
def Rf.asBool(x):Db H P n id (Go.asBool x) (Go.asBool (Az n x)):=by
 cases x with
 |bool b=>rw[Cq];exact Rf.pure iI
 |_=>exact Rf.stuck
def Rf.asAgg(x):Db H P n (Array.map (Az n)) (Go.asAgg x) (Go.asAgg (Az n x)):=by
 cases x with
 |agg b=>rw[Cc];exact Rf.pure iI
 |_=>exact Rf.stuck
def Rf.asAddr(x):Db H P n (Ei n) (Go.asAddr x) (Go.asAddr (Az n x)):=by
 cases x with
 |pointer a=>
  cases a with
  |none=>exact Rf.never (by unfold Go.asAddr;exact Jr _)
  |some a=>rw[A8];exact Rf.pure iI
 |_=>exact Rf.stuck
def Rf.sureAddr(x):Db H P n (Ei n) (Instr.sureAddr x) (Instr.sureAddr (Az n x)):=by
 cases x with
 |pointer t=>rw[A8];cases t<;>first|exact Rf.stuck|exact Rf.pure iI
 |_=>exact Rf.stuck
def Rf.listMapM{f:b->c}{g:a->d}{k:b->Sem a}{q:c->Sem d}(h:∀x,Db H P n g (k x) (q (f x))):∀l:List b,Db H P n (List.map g) (l.mapM k) ((l.map f).mapM q)
 |[]=>by exact Rf.pure iI
 |x::l=>by
  simp only[bC,List.mapM_cons];exact Rf.bind (h x) λ_=>Rf.bind (Rf.listMapM h l) λ_=>Rf.pure iI
def Rf.arrayMapM{f:b->c}{g:a->d}{k:b->Sem a}{k':c->Sem d}(h:∀x,Db H P n g (k x) (k' (f x)))(l:Array b):Db H P n (Array.map g) (l.mapM k) ((l.map f).mapM k'):=by
 rw[Array.mapM_eq_mapM_toList,Array.mapM_eq_mapM_toList,bU];exact Rf.map (Rf.listMapM h _) λe=>Ad
end
def Hr(P:I):Prop:=∀t i z,P.info? t=lj i->i.zero=lj z->∀n,Az n z=z
section
variable {n:Ren}
def Rf.typeInfoIn(t){g:a->d}{k:TypeInfo->Sem a}{q:TypeInfo->Sem d}(h:∀i,P.info? t=lj i->Db H P n g (k i) (q i)):Db H P n g (Go.typeInfo t >>= k) (Go.typeInfo t >>= q):=by
 show Db H P n g (Go.program >>= λp=>(match p.info? t with|some i=>(Pure.pure i:Sem TypeInfo)|none=>Go.stuck "no such type") >>= k) (Go.program >>= λp=>(match p.info? t with|some i=>(Pure.pure i:Sem TypeInfo)|none=>Go.stuck "no such type") >>= q);apply Rf.programIn;cases V:P.info? t with
 | none=>exact Rf.never (Cu iI trivial)
 | some i=>exact h i V
def Rf.zeroValue(N:Hr P)(t):Db H P n (Az n) (Go.zeroValue t) (Go.zeroValue t):=by
 refine Rf.typeInfoIn t λi V=>?_;cases h:i.zero with
 |none=>exact Rf.unsup
 |some z=>exact Rf.pure (N t i z V h n).symm
def Rf.alloc(N:Hr P)(e b x):Db H P n (Az n) (Instr.alloc e b x) (Instr.alloc e b (Az n x)):=by
 refine Rf.bind (Rf.zeroValue N e) λz=>?_;have K:Db H P n (Az n) (do let a ←Go.newVar e z;Pure.pure (Value.pointer (lj a))) (do let a ←Go.newVar e (Az n z);Pure.pure (Value.pointer (lj a))):=Rf.bind (Rf.newVar _ _) λ_=>Rf.pure Ad;cases b with
 |true=>cases x<;>simpa using K
 |false=>
  cases x with
  |pointer a=>
   cases a with
   |none=>simpa using K
   |some a=>
    simp only[A8,aI];exact Rf.bind (Rf.storeVar _ _ _) λ_=>Rf.pure Ad
  |_=>simpa using K
def Rf.box(e x):Db H P n (Az n) (Instr.box e x) (Instr.box e (Az n x)):=Rf.bind (Rf.newVar _ _) λ_=>Rf.pure Ad
def LJ(off):∀(l:List (T×Nat)) (cs:gY),(l.map λx=>(Az n x.1,x.2)).foldl (λcs x=>cs.setIfInBounds (off+x.2) x.1) (cs.map (Az n))=(l.foldl (λcs x=>cs.setIfInBounds (off+x.2) x.1) cs).map (Az n)
 |[],cs=>rfl
 |x::l,cs=>by
  simp only[bC,fK];rw[←LJ off l,Array.map_setIfInBounds]
def P5(a:Nat->Option (Nat×Nat)):∀c (cs:gY),Instr.fill a (cs.map (Az n)) (c.map λx=>(x.1,Az n x.2))=(Instr.fill a cs c).map (Array.map (Az n))
 |[],cs=>rfl
 |(i,x)::c,cs=>by
  simp only[bC,Instr.fill];cases a i with
  |none=>rfl
  |some f=>
   have ⟨off,d⟩:=f;simp only[Kc,gI];split
   ·rfl
   ·rw[←P5 a c]
    congr 1
    rw[←fQ,←fQ,←LJ off]
    congr 1
    simp[Array.toList_zipIdx,List.zipIdx_map]
def Rf.build(N:Hr P)(t a):Db H P n (Az n) (Instr.build t a) (Instr.build t (a.map λx=>(x.1,Az n x.2))):=by
 refine Rf.bind (Rf.zeroValue N t) λz=>?_;refine Rf.bind (Rf.underlying t) λd=>?_;simp only[id,Kc,bU];cases d with
 |struct L=>
  have b:Db H P n _ _ ((L.map id).mapM λf=>do let s ←Go.sizeOf f.type;Pure.pure (f.offset,s)):=Rf.arrayMapM (g:=id) (λx=>by exact Rf.bind (Rf.sizeOf (P:=P) (n:=n) (H:=H) x.type) λs=>Rf.pure iI) L;rw[Array.map_id]at b;refine Rf.bind b λu=>?_;rw[Array.map_id,P5];exact Dn7
 |array k e=>
  refine Rf.bind (Rf.sizeOf _) λg=>?_;simp only[id];rw[P5];exact Dn7
 |_=>exact Rf.stuck
def Rn(N:z.map (Az n)=z)(m):((Array.range m).map (z[· % z.size]!)).map (Az n)=(Array.range m).map (z[· % z.size]!):=by
 rw[Array.map_map];refine Array.map_congr_left λi V=>?_;simp only[Function.comp];by_cases h:i % z.size<z.size
 ·grind
 ·rw[getElem!_neg z _ h];exact Cq n _
def Rf.zeroCellsOf(N:Hr P)(t){g:a->d}{k:T->Sem a}{q:T->Sem d}(h:∀z,Az n z=z->Db H P n g (k z) (q z)):Db H P n g (Go.zeroValue t >>= k) (Go.zeroValue t >>= q):=by
 unfold Go.zeroValue;rw[bind_assoc,bind_assoc];refine Rf.typeInfoIn t λi V=>?_;cases B:i.zero with
 |none=>exact Rf.never (Cu iI trivial)
 |some z=>exact h z (N t i z V B n)
def Vr{z}(h:Az n z=z):z.cells.map (Az n)=z.cells:=by rw[←Kc,h]
def Rf.buildSlice(N:Hr P)(t l b):Db H P n (Az n) (Instr.buildSlice t l b) (Instr.buildSlice t l (b.map λx=>(x.1,Az n x.2))):=by
 refine Rf.bind (Rf.underlying t) λd=>?_;simp only[id,bU];cases d with
 |slice e=>
  refine Rf.bind (Rf.sizeOf _) λa=>?_;simp only[id];split
  ·exact Rf.never (Cu iI trivial)
  ·split
   ·rw[pure_bind,pure_bind];have S:=P5 (n:=n) (λi=>lj (i * a,a)) b.toList ((Array.range (l * a)).map ((#[]:gY)[· % ((#[]:gY)).size]!));rw[Rn Ad]at S;exact Pn6
   ·refine Rf.zeroCellsOf N e λz B=>?_;rw[pure_bind,pure_bind];have S:=P5 (n:=n) (λi=>lj (i * a,a)) b.toList ((Array.range (l * a)).map (z.cells[· % (z.cells).size]!));rw[Rn (Vr B)]at S;exact Pn6
 |_=>exact Rf.stuck
def Rf.extract(x i):Db H P n (Az n) (Instr.extract x i) (Instr.extract (Az n x) i):=by
 cases x with
 |tuple a=>
  rw[Ce];unfold Instr.extract;dsimp only;rw[aN];cases a[i]? with
  |none=>exact Rf.stuck
  |some x=>exact Rf.pure iI
 |_=>exact Rf.stuck
def Rf.field(t x i):Db H P n (Az n) (Instr.field t x i) (Instr.field t (Az n x) i):=by
 refine Rf.bind (Rf.underlying t) λu=>?_;simp only[id];cases u with
 |struct L=>
  dsimp only;cases L[i]? with
  |none=>exact Rf.stuck
  |some f=>exact Rf.bind (Rf.asAgg x) λ_=>Rf.part _ _ _
 |_=>exact Rf.stuck
def Rf.index(t x i):Db H P n (Az n) (Instr.index t x i) (Instr.index t (Az n x) (Az n i)):=by
 refine Rf.bind (Rf.asIntOf i) λf=>?_;refine Rf.bind (Rf.underlying t) λd=>?_;simp only[id];cases d with
 |array b e=>
  cases x with
  |agg cs=>
   simp only[Cc];split
   ·exact Rf.bind (Rf.sizeOf _) λ_=>Rf.part _ _ _
   ·exact Rf.bp
  |_=>exact Rf.stuck
 |string=>
  cases x with
  |string s=>
   simp only[Bc];split
   ·exact Rf.pure Ad
   ·exact Rf.bp
  |_=>exact Rf.stuck
 |_=>cases x<;>exact Rf.stuck
def Rf.sliceBound(x y c):Db H P n id (Instr.sliceBound x y c) (Instr.sliceBound (Az n x) y c):=by
 refine Rf.bind (Rf.asIntOf x) λa=>?_;simp only[id];split
 ·exact Rf.pure iI
 ·exact Rf.bp
def Rf.sliceBounds(b l c s V C):Db H P n id (Instr.sliceBounds b l c s V C) (Instr.sliceBounds b l c (s.map (Az n)) (V.map (Az n)) (C.map (Az n))):=by
 cases C<;>cases V<;>cases s<;>simp only[Option.map_none,aI, Option.isSome_some]
 all_goals repeat' first|exact Rf.stuck|exact Rf.pure iI|refine Rf.bind (Rf.sliceBound _ _ _) (λ_=>?_)|refine Rf.bind (f:=id) (Rf.pure iI) (λ_=>?_)|exact Rf.never _
end
section
variable {n:Ren}
def LN(r):Kp P (Go.shape r):=λv h U Y=>by cases Y
def GW(a):Kp P (Go.frozen a):=λv h U Y=>by cases Y
def P6(a l m)(b:hU)(x):Kp P (jk a l m b x):=by
 unfold jk Builtin.holdsCells
 repeat' first|exact Hw _|exact LN _|exact GW _|refine Hv ?_ (λ_=>?_)|split|dsimp only
def Rf.loadAt(t a):Db H P n (Az n) (Instr.loadAt t a) (Instr.loadAt t (Az n a)):=Rf.bind (Rf.sureAddr a) λ_=>Rf.loadVar _ _
def Rf.storeAt(t a x):Db H P n id (Instr.storeAt t a x) (Instr.storeAt t (Az n a) (Az n x)):=Rf.bind (Rf.sureAddr a) λ_=>Rf.storeVar _ _ _
def Ahj(a:hU)(k):(a.map (Ei n)).map (·.add k)=(a.map (·.add k)).map (Ei n):=by
 cases a<;>simp[Km]
def Rf.slice(t x b V C):Db H P n (Az n) (Instr.slice t x b V C) (Instr.slice t (Az n x) (b.map (Az n)) (V.map (Az n)) (C.map (Az n))):=by
 refine Rf.bind (Rf.underlying t) λd=>?_;cases d with
 |string=>
  cases x with
  |string s=>
   simp only[Bc,Option.isSome_map];split
   ·exact Rf.never (Cu iI trivial)
   ·exact Rf.bind (Rf.sliceBounds sd s.size s.size b V jh) λ_=>Rf.pure Ad
  |_=>exact Rf.stuck
 |slice e=>
  cases x with
  |slice a f I=>
   simp only[Bm];refine Rf.bind (Rf.sliceBounds km f I b V C) λq=>Rf.bind (Rf.sizeOf _) λc=>Rf.pure ?_;simp only[id,Bm];split
   ·rfl
   ·rw[Ahj]
  |_=>exact Rf.stuck
 |pointer g=>
  refine Rf.bind (Rf.asAddr x) λa=>Rf.bind (Rf.underlying _) λd=>?_;cases d with
  |array k e=>
   refine Rf.bind (Rf.sliceBounds sd k k b V C) λq=>Rf.bind (Rf.sizeOf _) λc=>Rf.pure ?_;simp only[id,Bm,aI];split
   ·rfl
   ·rw[Km]
  |_=>exact Rf.stuck
 |_=>cases x<;>exact Rf.stuck
def Rf.sliceAt(t x s V C):Db H P n (Az n) (Instr.sliceAt t x s V C) (Instr.sliceAt t (Az n x) (s.map (Az n)) (V.map (Az n)) (C.map (Az n))):=by
 refine Rf.bind (Rf.underlying t) λd=>?_;cases d with
 |array k e=>
  refine Rf.bind (Rf.sureAddr x) λa=>Rf.bind (Rf.sliceBounds sd k k s V C) λq=>Rf.bind (Rf.sizeOf _) λc=>Rf.pure ?_;simp only[id,Bm,aI];split
  ·rfl
  ·rw[Km]
 |_=>exact Rf.slice _ _ _ _ _
def Rf.indexAt(t x i):Db H P n (Az n) (Instr.indexAt t x i) (Instr.indexAt t (Az n x) (Az n i)):=by
 refine Rf.bind (Rf.asIntOf i) λf=>?_;refine Rf.bind (Rf.underlying t) λd=>?_;simp only[id];cases d with
 |array b e=>
  refine Rf.bind (Rf.sureAddr x) λa=>?_;rw[pure_bind,pure_bind];refine Rf.bind (Rf.underlying t) λM=>?_;simp only[id];exact C65
 |slice e=>
  cases x with
  |slice c b g=>
   simp only[Bm];rw[pure_bind,pure_bind];refine Rf.bind (Rf.underlying t) λM=>?_;cases c with
   |none=>exact Rf.bp
   |some a=>
    simp only[aI];exact C65
  |_=>exact Rf.never (Cu iI trivial)
 |_=>cases x<;>exact Rf.never (Cu iI trivial)
def Rf.makeSlice(N:Hr P)(t l c):Db H P n (Az n) (Instr.makeSlice t l c) (Instr.makeSlice t (Az n l) (Az n c)):=by
 refine Rf.bind (Rf.underlying t) λd=>?_;cases d with
 |slice e=>
  refine Rf.bind (Rf.asInt l) λg=>Rf.bind (Rf.asInt c) λI=>Rf.bind (Rf.typeInfo e) λT=>?_;simp only[id];split
  ·split
   ·exact Rf.never (D7 (Jr _))
   ·split
    ·exact Rf.never (D7 (Jr _))
    ·exact Rf.never (Gk (Oy _) λ_=>D7 (Jr _))
  ·refine Rf.bind (Rf.askRoom _) λ_=>Rf.bind (Rf.sizeOf e) λa=>?_;simp only[id];split
   ·refine Rf.bind (f:=Ei n) ?_ λ_=>Rf.pure Ad;have:=Rf.newRow (P:=P) (n:=n) (H:=H) e ((Array.range ((IntKind.i64.wrap I).toNat * a)).map ((#[]:gY)[· % (#[]:gY).size]!))
    grind
   ·refine Rf.zeroCellsOf N e λz B=>?_;refine Rf.bind (f:=Ei n) ?_ λ_=>Rf.pure Ad;have:=Rf.newRow (P:=P) (n:=n) (H:=H) e ((Array.range ((IntKind.i64.wrap I).toNat * a)).map (z.cells[· % z.cells.size]!))
    rwa[Rn (Vr B)]at this
 |_=>exact Rf.stuck
def Rf.lenOf(x):Db H P n id (Builtin.lenOf x) (Builtin.lenOf (Az n x)):=by
 cases x with
 |slice a l c=>rw[Bm];exact Rf.pure iI
 |string s=>rw[Bc];exact Rf.pure iI
 |_=>exact Rf.stuck
def Rf.firstCells(s k x):Db H P n (Array.map (Az n)) (vg s k x) (vg s k (Az n x)):=by
 cases x with
 |slice a l c=>
  rw[Bm];cases a with
  |none=>exact Rf.pure Ad
  |some a=>exact Rf.loadCells _ _
 |string s=>rw[Bc];exact Rf.pure (by simp[dT])
 |_=>exact Rf.stuck
def Rf.copy(L t)(X:gY):Db H P n (Az n) (qo L t X) (qo L t (X.map (Az n))):=by
 unfold qo;simp only[aN];cases L[0]? with
 |none=>exact Rf.stuck
 |some d=>
  cases X[0]? with
  |none=>exact Rf.stuck
  |some x=>
   cases X[1]? with
   |none=>exact Rf.stuck
   |some k=>
    simp only[aI];refine Rf.bind (Rf.underlying d) λu=>?_;simp only[id];cases u with
    |slice e=>
     simp only;cases x with
     |slice a l c=>
      simp only[Bm];refine Rf.bind (Rf.lenOf k) λb=>Rf.bind (Rf.sizeOf e) λg=>Rf.bind (Rf.firstCells _ _ _) λcs=>?_;simp only[id];cases a with
      |none=>exact Rf.pure M2
      |some f=>
       simp only[aI,bU];exact Rf.bind (Rf.storeCells _ _ _) λ_=>Rf.pure M2
     |_=>exact Rf.stuck
    |_=>exact Rf.stuck
def DD(N:z.map (Az n)=z)(m):(yp z m).map (Az n)=yp z m:=Rn N _
def Rf.underlyingIn(t){g:a->d}{k:wj->Sem a}{q:wj->Sem d}(h:∀b,P.underlying t=lj b->Db H P n g (k b) (q b)):Db H P n g (Go.underlying t >>= k) (Go.underlying t >>= q):=by
 show Db H P n g (Go.program >>= λp=>(match p.underlying t with|some i=>(Pure.pure i:Sem wj)|none=>Go.stuck "no such type") >>= k) (Go.program >>= λp=>(match p.underlying t with|some i=>(Pure.pure i:Sem wj)|none=>Go.stuck "no such type") >>= q);apply Rf.programIn;cases V:P.underlying t with
 | none=>exact Rf.never (Cu iI trivial)
 | some i=>exact h i V
def UX(N:Hr P)(e)(I a:gY)(m){z}(h:Az n z=z):Db H P n (Ei n) (Go.newRow e (I++a++yp z.cells m)) (Go.newRow e (I.map (Az n)++a.map (Az n)++yp z.cells m)):=by
 have:=Rf.newRow (P:=P) (n:=n) (H:=H) e (I++a++yp z.cells m)
 rwa[dC,dC,DD (Vr h)]at this
def Rf.append(N:Hr P)(L t)(X:gY)(E:∀j,L[1]?=lj j->∀c,P.underlying j≠lj (.int c)):Db H P n (Az n) (ry L t X) (ry L t (X.map (Az n))):=by
 unfold ry;simp only[aN];cases L[0]? with
 |none=>exact Rf.stuck
 |some d=>
  cases X[0]? with
  |none=>exact Rf.stuck
  |some s=>
   cases X[1]? with
   |none=>exact Rf.stuck
   |some k=>
    simp only[aI];refine Rf.bind (Rf.underlying d) λu=>?_;simp only[id];cases u with
    |slice e=>
     simp only;cases s with
     |slice a l f=>
      simp only[Bm];refine Rf.bind (Rf.sizeOf e) λg=>?_;simp only[id];cases C:L[1]? with
      |none=>
       simp only[pure_bind,aR,↓reduceIte,Bool.not_false,false_or];refine Rf.bind (Rf.lenOf k) λm=>?_;simp only[id];split
       ·exact Bom
       ·exact Wnw
      |some j=>
       simp only;refine Rf.underlyingIn j λU q=>?_;cases U
       case int c=>exact absurd q (E j C c)
       all_goals
        simp only[pure_bind,aR,↓reduceIte,Bool.not_false,false_or];refine Rf.bind (Rf.lenOf k) λm=>?_;simp only[id];split
        ·exact Bom
        ·exact Wnw
     |_=>exact Rf.stuck
    |_=>exact Rf.stuck
end
section
variable {n:Ren}
def Rf.viewAt(r):Db H P n (Option.map λx=>(Ei n x.1,x.2)) (Go.viewAt r) (Go.viewAt (sh n r)):=by
 exact Puf
def Rf.numberAt(r):Db H P n (Option.map λx=>(Ei n x.1,x.2)) (Go.numberAt r) (Go.numberAt (sh n r)):=by
 exact Puf
def Rf.behindNumber(a):Db H P n (λx=>(Ei n x.1,x.2)) (Go.behindNumber a) (Go.behindNumber (Ei n a)):=by
 refine Rf.bind (Rf.numberAt a.block) λx=>Rf.pure ?_;cases x<;>rfl
def Rf.noView(a):Db H P n id (Go.noView a) (Go.noView (Ei n a)):=by
 refine Rf.bind (Rf.viewAt a.block) λo=>?_;rw[Option.isSome_map];split
 ·exact Rf.unsup
 ·exact Rf.pure iI
def Rf.byteOf(a):Db H P n id (Go.byteOf a) (Go.byteOf (Ei n a)):=by
 unfold Go.byteOf
 show Db H P n id _ (match a.3 with|some s=>(Pure.pure s:Sem Nat)|_=>_);cases a.3 with
 |some s=>exact Rf.pure iI
 |none=>
  refine Rf.bind Rf.program λp=>Rf.bind (Rf.noView a) λ_=>Rf.shapeThen a.block (λs=>?_) (λe=>.inr λm=>rfl);simp only[id];cases s with
  |none=>exact Rf.stuck
  |some s=>
   dsimp only;split
   ·exact Rf.pure iI
   ·show Db H P n id _ (match byteOfCell p p.depth s.1 (a.off % p.cellsOf s.1) with|some b=>Pure.pure (a.off / p.cellsOf s.1 * p.bytesOf s.1+b)|_=>_);cases byteOfCell p p.depth s.1 _ with
    |none=>exact Rf.stuck
    |some b=>exact Rf.pure iI
def Rf.partAt(a k m):Db H P n (Ei n) (Go.partAt a k m) (Go.partAt (Ei n a) k m):=by
 refine Rf.bind (Rf.byteOf a) λb=>Rf.bind (Rf.byteOf (P:=P) (n:=n) (H:=H) { block:=a.block,off:=a.off+k }) λJ=>Rf.pure ?_;simp only[id];split<;>rfl
def Rf.fieldPlace(a f):Db H P n (Ei n) (Go.fieldPlace a f) (Go.fieldPlace (Ei n a) f):=by
 refine Rf.bind (Rf.sizeOf _) λs=>?_;simp only[id];split
 ·exact Rf.partAt _ _ _
 ·exact Rf.pure (Km n a f.offset).symm
def Rf.fieldAt(s a f):Db H P n (Az n) (Instr.fieldAt s a f) (Instr.fieldAt s (Az n a) f):=by
 refine Rf.bind (Rf.underlying _) λd=>?_;simp only[id];cases d with
 |struct L=>
  dsimp only;cases L[f]? with
  |none=>exact Rf.stuck
  |some f=>exact Rf.bind (Rf.sureAddr _) λ_=>Rf.bind (Rf.fieldPlace _ _) λ_=>Rf.pure Ad
 |_=>exact Rf.stuck
def Afb(n a b):(Ei n a==Ei n b)=(a==b):=by
 rw[eQ,beq_iff_eq,beq_iff_eq];exact⟨Ah8,λh=>by rw[h]⟩
def SU(n i j):(sh n i==sh n j)=(i==j):=by
 rw[eQ,beq_iff_eq,beq_iff_eq];exact Alx
def Rf.listForInMem{k q:a->b->Sem (ForInStep b)}:∀(l:List a)c,(∀x,x∈l->∀y,Db H P n id (k x y) (q x y))->Db H P n id (forIn l c k) (forIn l c q)
 |[],c,h=>by exact Rf.pure iI
 |x::l,c,h=>by
  rw[fL,fL];refine Rf.bind (h x Ad c) λs=>?_;cases s with
  |done c=>exact Rf.pure iI
  |yield c=>exact Rf.listForInMem l c λy U=>h y (by simp[U])
def Rf.arrayForInMem{k q:a->b->Sem (ForInStep b)}(l:Array a)(c)(h:∀x,x∈l->∀y,Db H P n id (k x y) (q x y)):Db H P n id (forIn l c k) (forIn l c q):=by
 rw[←eS,←eS];exact Rf.listForInMem _ _ λx Z=>h x Aao
def Rf.rangeForIn{k q:Nat->a->Sem (ForInStep a)}(h:∀x y,Db H P n id (k x y) (q x y))(l:Std.Legacy.Range)(b):Db H P n id (forIn l b k) (forIn l b q):=by
 rw[fH,fH];exact Rf.listForInMem _ _ λx _ y=>h x y
def Zh(P:I):Nat->Z->Bool
 |0,_=>sd
 |d+1,t=>match P.underlying t with
  |some .bool=>km
  |some (.int _)=>km
  |some .string=>km
  |some (.slice _)=>km
  |some (.map _ _)=>km
  |some (.func _ _ _)=>km
  |some (.struct fs)=>fs.all λf=>Zh P d f.type
  |some (.array _ e)=>Zh P d e
  |_=>sd
def Afc{G i}(h:n.Fix G):(sh n i<G)=(i<G):=by
 refine propext ⟨λV=>?_,λV=>?_⟩
 ·have:=Gq (h _ V:sh n (sh n i)=sh n i);omega
 ·rwa[show sh n i=i from h i V]
def Rf.equalIn(p:n.Fix P.globals.size):∀m(t:Z),Zh P m t=km->∀d(x y:T),Db H P n id (ic d t x y) (ic d t (Az n x) (Az n y)):=by
 intro m
 induction m with
 |zero=>intro t h;cases h
 |succ m O=>
  intro t h d x y;cases d with
  |zero=>exact Rf.unsup
  |succ d=>
   unfold ic;refine Rf.underlyingIn t λu v=>?_;unfold Zh at h;rw[v]at h;cases u with
   |bool=>
    cases x<;>first|exact Rf.stuck|(cases y<;>first|exact Rf.stuck|(simp only[Cq];exact Rf.pure iI))
   |string=>
    cases x<;>first|exact Rf.stuck|(cases y<;>first|exact Rf.stuck|(simp only[Bc];exact Rf.pure iI))
   |int E=>
    cases x with
    |int C a=>
     cases y with
     |int w b=>
      simp only[B0];split
      ·exact Rf.pure iI
      ·exact Rf.stuck
     |pointer b=>cases b<;>(cases a with
      |ofNat z=>cases z<;>first|exact Rf.unsup|(rw[B0,A8];exact Rf.pure iI)
      |negSucc z=>exact Rf.unsup)
     |_=>exact Rf.stuck
    |pointer a=>
     cases a with
     |none=>cases y<;>exact Rf.unsup
     |some a=>
      cases y with
      |int w b=>cases b with
       |ofNat z=>cases z<;>first|exact Rf.unsup|(rw[B0,A8];exact Rf.pure iI)
       |negSucc z=>exact Rf.unsup
      |pointer b=>
       cases b with
       |none=>exact Rf.unsup
       |some b=>
        simp only[A8,aI];refine Rf.bind (Rf.behindNumber a) λc=>Rf.bind (Rf.behindNumber b) λg=>?_;dsimp only;apply Rf.programIn;have i:((Ei n c.1).block==(Ei n g.1).block)=(c.1.block==g.1.block):=SU n _ _;have L:decide ((Ei n c.1).block<P.globals.size)=decide (c.1.block<P.globals.size):=decide_eq_decide.2 (iff_of_eq (Afc p));simp only[i,L,Afb];split
        ·exact Lmf
        ·refine Rf.bind (Rf.typeInfo t) λT=>?_;simp only[id];split
         ·split
          ·exact Rf.pure iI
          ·exact Rf.unsup
         ·exact Rf.unsup
      |_=>exact Rf.unsup
    |_=>cases y<;>first|exact Rf.stuck|exact Rf.unsup
   |slice e=>
    cases x with
    |slice a l F=>
     cases y with
     |slice b V B=>cases a<;>cases b<;>first|exact Rf.stuck|(simp only[Bm];exact Rf.pure iI)
     |_=>cases a<;>exact Rf.stuck
    |_=>cases y<;>exact Rf.stuck
   |map M J=>
    cases x with
    |map a=>
     cases y with
     |map b=>cases a<;>cases b<;>first|exact Rf.stuck|(simp only[C9];exact Rf.pure iI)
     |_=>cases a<;>exact Rf.stuck
    |_=>cases y<;>exact Rf.stuck
   |func G K N=>
    cases x with
    |nilFunc=>cases y<;>first|exact Rf.stuck|(simp only[B5];exact Rf.pure iI)|(simp only[B5,Cn];exact Rf.pure iI)
    |func D Q A=>cases y<;>first|exact Rf.stuck|(simp only[B5,Cn];exact Rf.pure iI)
    |_=>cases y<;>exact Rf.stuck
   |struct o=>
    cases x with
    |agg X=>
     cases y with
     |agg j=>
      simp only[Cc];apply Rf.programIn;split
      ·exact Rf.never (Cu iI trivial)
      ·refine Rf.bind (Rf.arrayForInMem o _ λf I s=>?_) λr=>?_
       ·have S:Zh P m f.type=km:=by
         have:=(Array.all_eq_true'.1 h) f I;simpa using this
        split
        ·refine Rf.bind (Rf.part _ _ _) λa=>Rf.bind (Rf.part _ _ _) λb=>Rf.bind (O f.type S d _ _) λr=>?_;simp only[id];split<;>exact Rf.pure iI
        ·exact Rf.pure iI
       ·simp only[id];split<;>exact Rf.pure iI
     |_=>exact Rf.stuck
    |_=>cases y<;>exact Rf.stuck
   |array l e=>
    cases x with
    |agg X=>
     cases y with
     |agg j=>
      simp only[Cc];refine Rf.bind (Rf.sizeOf e) λs=>?_;simp only[id];refine Rf.bind (Rf.rangeForIn (λk q=>?_) _ _) λr=>?_
      ·refine Rf.bind (Rf.part _ _ _) λa=>Rf.bind (Rf.part _ _ _) λb=>Rf.bind (O e h d _ _) λr=>?_;simp only[id];split<;>exact Rf.pure iI
      ·simp only[id];split<;>exact Rf.pure iI
     |_=>exact Rf.stuck
    |_=>cases y<;>exact Rf.stuck
   |_=>cases h
def Rf.equalNil{e}(r:P.underlying t=lj (.pointer e))(h:x=.pointer jh∨y=.pointer jh):Db H P n id (ue t x y) (ue t (Az n x) (Az n y)):=by
 unfold ue iq ic;refine Rf.underlyingIn t λu c=>?_;rw[r]at c;obtain rfl:=aB c;rcases h with rfl|rfl
 ·cases y<;>first|exact Rf.stuck|skip
  rename_i b;cases b<;>(simp only[A8];exact Rf.pure iI)
 ·cases x<;>first|exact Rf.stuck|skip
  rename_i a;cases a<;>(simp only[A8];exact Rf.pure iI)
end
section
variable {n:Ren}
def Rf.stuckBind{g:a->d}{k:b->Sem a}{t}:Db H P n g (Go.stuck m >>= k) t:=Rf.never (D7 (Cu (h:=.stuck m) iI trivial))
def Rf.unsupBind{g:a->d}{m}{k:b->Sem a}{t}(h:HB (.unsupported m):=by exact trivial):Db H P n g (Go.unsupported m >>= k) t:=Rf.never (D7 (Cu iI h))
def Rf.intArith(a k x y):Db H P n (Az n) (xj a k x y) (xj a k x y):=by
 unfold xj;exact A9z
def Rf.intDiv(a k x y):Db H P n (Az n) (Op.intDiv a k x y) (Op.intDiv a k x y):=by
 unfold Op.intDiv;split
 ·exact Rf.rt
 ·exact A9z
def Rf.intBits(a k x y):Db H P n (Az n) (Op.intBits a k x y) (Op.intBits a k x y):=by
 unfold Op.intBits;exact A9z
def Rf.shift(a k x q y):Db H P n (Az n) (ud a k x q y) (ud a k x q y):=by
 unfold ud;split
 ·exact Rf.rt
 ·exact A9z
def Rf.intCmp(a x y):Db H P n (Az n) (Op.intCmp a x y) (Op.intCmp a x y):=by
 unfold Op.intCmp;exact A9z
def Rf.floatArith(b k x y):Db H P n (Az n) (jq b k x y) (jq b k x y):=by
 unfold jq;dsimp only
 repeat' first
  |exact Rf.stuck
  |exact Rf.stuckBind
  |exact Rf.pure (B3 n _ _).symm
  |exact Rf.bind (Rf.choose _) λ_=>Rf.pure (B3 n _ _).symm
  |rw[pure_bind]
  |split
def Rf.floatCmp(a k x y):Db H P n (Az n) (xx a k x y) (xx a k x y):=by
 unfold xx;exact A9z
def Rf.stringOp(a)(x y:gU):Db H P n (Az n) (o6 a x y) (o6 a x y):=by
 unfold o6;split
 ·split
  ·exact Rf.unsup
  ·exact Rf.pure Ad
 all_goals first|exact Rf.stuck|exact Rf.pure Ad
def Rf.unary(b x):Db H P n (Az n) (Op.unary b x) (Op.unary b (Az n x)):=by
 unfold Op.unary;cases b<;>cases x<;>first
  |exact Rf.stuck
  |(simp only[B0];exact Rf.intArith _ _ _ _)
  |(simp only[B0];exact Rf.intBits _ _ _ _)
  |(simp only[B3];exact Rf.pure Ad)
  |(simp only[B1];exact Rf.pure Ad)
  |(simp only[Cq];exact Rf.pure Ad)
  |(rename_i a;cases a<;>first|exact Rf.stuck|exact Rf.unsup)
def Rf.twoPlaces(p:n.Fix P.globals.size)(a b):Db H P n id (Op.twoPlaces a b) (Op.twoPlaces (Ei n a) (Ei n b)):=by
 have S:((Ei n a).block != (Ei n b).block)=(a.block != b.block):=by
  show(!(sh n a.block==sh n b.block))=(!(a.block==b.block));rw[SU]
 apply Rf.programIn;have L:decide ((Ei n a).block ≥ P.globals.size)=decide (a.block ≥ P.globals.size):=by
  have:=Afc (i:=a.block) p;have e:((Ei n a).block ≥ P.globals.size)↔(a.block ≥ P.globals.size):=by
   show P.globals.size<=sh n a.block↔P.globals.size<=a.block
   grind
  exact decide_eq_decide.2 e
 rw[S,L];split
 ·exact Rf.never (Cu iI trivial)
 ·exact Lmf
def Rf.addrSub(p:n.Fix P.globals.size)(k a b):Db H P n (Az n) (Op.addrSub k a b) (Op.addrSub k (Ei n a) (Ei n b)):=by
 exact Rf.bind (Rf.twoPlaces p a b) λ_=>Rf.pure Ad
def Rf.addrCmp(p:n.Fix P.globals.size)(c a b):Db H P n (Az n) (Op.addrCmp c a b) (Op.addrCmp c (Ei n a) (Ei n b)):=by
 refine Rf.bind (Rf.twoPlaces p a b) λx=>?_;cases c<;>first|exact Rf.unsup|exact Rf.pure Ad
def Rf.addrMod(k a m):Db H P n (Az n) (Op.addrMod k a m) (Op.addrMod k (Ei n a) m):=by
 refine Rf.shapeThen a.block (λs=>?_) (λe=>.inr λm=>rfl);cases s with
 |none=>exact Rf.unsup
 |some s=>
  refine Rf.bind (Rf.typeInfo _) λT=>?_;simp only[id];split
  ·exact Rf.never (Cu iI trivial)
  ·exact Rf.bind (Rf.byteOf _) λ_=>Rf.pure Ad
def Rf.asNumber(a l):Db H P n (Az n) (Go.asNumber a l) (Go.asNumber (Ei n a) l):=Rf.bind (Rf.newObj (o:=.number a l) trivial) λ_=>Rf.pure (by simp[Ei])
def Vp(p d e off m):cellAtBytes p d e 0 off m=jh:=by
 unfold cellAtBytes;simp only[Nat.zero_mul];split
 ·rfl
 ·cases byteOfCell p d e _ with
  |none=>rfl
  |some h=>
   grind
def Rf.unsafeAdd(t x y):Db H P n (Az n) (ug #[] t #[x,y]) (ug #[] t #[Az n x,Az n y]):=by
 unfold ug;cases x with
 | pointer B=>
  rw[A8];refine Rf.bind (Rf.asInt y) λm=>?_;cases B with
  | none=>
   simp only[id,Option.map_none];split
   ·exact Rf.unsup
   ·split
    ·exact Rf.unsupBind
    ·exact Rf.unsup
  | some a=>
   simp only[id,aI];split
   ·refine Rf.bind (Rf.viewAt a.block) λo=>?_;rw[Option.isSome_map];split
    ·exact Rf.unsupBind
    ·exact Rf.pure Ad
   ·split
    ·exact Rf.unsupBind
    ·refine Rf.shapeThen a.block (λs=>?_) (λe=>.inl λv x U Y=>by
      have I:(match cellAtBytes P P.depth e (0 / P.cellsOf e) a.off m with|some off=>(Pure.pure (Value.pointer (lj { a with off })):Sem uo)|none=>Go.unsupported (.unsafePointer "Add")).run P v=.ok x U:=Y;rw [Nat.zero_div,Vp] at I;cases I)
     cases s with
     | none=>exact Rf.unsup
     | some s=>
      simp only[id];refine Rf.bind Rf.program λp=>?_;simp only[id]
      show Db H P n (Az n) _ (match cellAtBytes p p.depth s.1 (s.2 / p.cellsOf s.1) a.off m with|some off=>Pure.pure (Value.pointer (lj { Ei n a with off }))|none=>Go.unsupported (.unsafePointer "Add"));cases cellAtBytes p p.depth s.1 (s.2 / p.cellsOf s.1) a.off m with
      | none=>exact Rf.unsup
      | some o=>exact Rf.pure (by simp[Ei])
 | _=>exact Rf.stuck
def Rf.movedNumber(t x y):Db H P n (Az n) (Go.movedNumber t x y) (Go.movedNumber t (Az n x) (Az n y)):=by
 unfold Go.movedNumber;refine Rf.bind (Rf.underlying t) λd=>?_;cases d
 case unsafePointer=>exact Rf.unsupBind
 all_goals
  simp only[id,aR,↓reduceIte];cases x with
  |pointer B=>
   cases B with
   |none=>
    have:=Rf.unsafeAdd (P:=P) (n:=n) (H:=H) t (.pointer jh) y
    simp_all
   |some b=>
    simp only[A8,aI];refine Rf.bind (Rf.behindNumber b) λq=>?_;have:=Rf.unsafeAdd (P:=P) (n:=n) (H:=H) t (.pointer (lj q.1)) y;rw[A8,aI]at this;refine Rf.bind this λr=>?_;cases r with
    |pointer a=>
     cases a with
     |none=>rw[A8];exact Rf.pure Ad
     |some a=>rw[A8];exact Rf.asNumber a q.2
    |_=>first|(simp only[Cq,B0,B3,B1,Bc,B5,Bu,Bm,C9,Dg,Cn,Cf,Cc,Ce];exact Rf.pure Ad)
  |_=>exact Rf.stuck
def Rf.movedPointer(t x y):Db H P n (Az n) (Go.movedPointer t x y) (Go.movedPointer t (Az n x) (Az n y)):=by
 unfold Go.movedPointer;cases x with
 |pointer B=>
  cases B with
  |none=>
   have:=Rf.unsafeAdd (P:=P) (n:=n) (H:=H) t (.pointer jh) y
   simp_all
  |some b=>
   simp only[A8,aI];refine Rf.bind (Rf.numberAt b.block) λq=>?_;split
   ·exact Rf.unsupBind
   ·have:=Rf.unsafeAdd (P:=P) (n:=n) (H:=H) t (.pointer (lj b)) y
    simp_all
 |_=>exact Rf.stuck
end
section
variable {n:Ren}
def Mc(P:I)(Q:b->Prop):Sem b->Prop
 |.pure a=>Q a
 |.choose _ k=>∀x,Mc P Q (k x)
 |.program k=>Mc P Q (k P)
 |.halt h=>HB h
 |_=>False
def Mc.bind{Q:b->Prop}{R:a->Prop}{k:b->Sem a}:∀{s},Mc P Q s->(∀c,Q c->Mc P R (k c))->Mc P R (s >>= k):=by
 intro s
 induction s with
 |pure c=>intro h H;exact H c h
 |choose q f O=>intro h H x;exact O x (h x) H
 |program f O=>intro h H;exact O P h H
 |halt e=>intro h H;exact h
 |_=>intro h;exact h.elim
def Mc.rf{Q:b->Prop}{f:b->b}(c:∀a,Q a->a=f a):∀{s},Mc P Q s->Db H P n f s s:=by
 intro s
 induction s with
 |pure a=>exact λh=>Rf.pure (c a h)
 |choose q k O=>exact λh=>Rf.bind (Rf.choose q) λx=>O x (h x)
 |program k O=>exact λh=>Rf.programIn (O P h)
 |halt e=>exact λh=>Rf.never (Cu iI h)
 |_=>exact λh=>h.elim
def Fl0(x:T):Prop:=(∃k b,x=.float k b)∨(∃b,x=.bool b)∨∃k a b,x=.complex k a b
def Fl0.ren(h:Fl0 x):x=Az n x:=by
 rcases h with⟨k,b,rfl⟩|⟨b,rfl⟩|⟨k,a,b,rfl⟩<;>simp
def X6(a k x y):Mc P (λv=>∃b,v=Value.float k b) (jq a k x y):=by
 unfold jq;dsimp only
 repeat' first
  |exact trivial
  |exact⟨_,iI⟩
  |exact λ_=>⟨_,iI⟩
  |rw[pure_bind]
  |split
def CL(a k x y):Mc P (λv=>∃b,v=Value.bool b) (xx a k x y):=by
 unfold xx;split<;>first|exact⟨_,iI⟩|exact trivial
def Rf.eqGuardIn:∀d(t:q9)x y,Db H P n id (o0 d t x y) (o0 d t (Az n x) (Az n y))
 |0,t,x,y=>Rf.unsup
 |d+1,t,x,y=>by
  unfold o0;refine Rf.bind (Rf.underlying t) λu=>?_;simp only[id];cases u with
  |interface Z=>
   cases x with
   |nilIface=>cases y<;>first|(simp only[Bu];exact Rf.pure iI)|(simp only[Bu,Cq,B0,B3,B1,Bc,B5,Bm,C9,Dg,Cn,Cf,Cc,Ce,A8];exact Rf.pure iI)
   |_=>first|exact Rf.pure iI|(simp only[Cq,B0,B3,B1,Bc,B5,Bm,C9,Dg,Cn,Cf,Cc,Ce,A8];exact Rf.pure iI)
  |struct o=>
   cases x with
   |agg X=>
    cases y with
    |agg j=>
     simp only[Cc];refine Rf.bind (Rf.arrayForInMem o _ λf I s=>?_) λr=>?_
     ·split
      ·refine Rf.bind (Rf.part _ _ _) λa=>Rf.bind (Rf.part _ _ _) λb=>Rf.bind (Rf.eqGuardIn d f.type _ _) λr=>?_;simp only[id];split<;>exact Rf.pure iI
      ·exact Rf.pure iI
     ·simp only[id];split<;>exact Rf.pure iI
    |_=>first|exact Rf.pure iI|(simp only[Cq,B0,B3,B1,Bc,B5,Bu,Bm,C9,Dg,Cn,Cf,Cc,Ce,A8];exact Rf.pure iI)
   |_=>first|exact Rf.pure iI|(simp only[Cq,B0,B3,B1,Bc,B5,Bu,Bm,C9,Dg,Cn,Cf,Cc,Ce,A8];exact Rf.pure iI)
  |array l e=>
   cases x with
   |agg X=>
    cases y with
    |agg j=>
     simp only[Cc];refine Rf.bind (Rf.sizeOf e) λs=>?_;simp only[id];refine Rf.bind (Rf.rangeForIn (λk q=>?_) _ _) λr=>?_
     ·refine Rf.bind (Rf.part _ _ _) λa=>Rf.bind (Rf.part _ _ _) λb=>Rf.bind (Rf.eqGuardIn d e _ _) λr=>?_;simp only[id];split<;>exact Rf.pure iI
     ·simp only[id];split<;>exact Rf.pure iI
    |_=>first|exact Rf.pure iI|(simp only[Cq,B0,B3,B1,Bc,B5,Bu,Bm,C9,Dg,Cn,Cf,Cc,Ce,A8];exact Rf.pure iI)
   |_=>first|exact Rf.pure iI|(simp only[Cq,B0,B3,B1,Bc,B5,Bu,Bm,C9,Dg,Cn,Cf,Cc,Ce,A8];exact Rf.pure iI)
  |_=>exact Rf.pure iI
end
section
variable {n:Ren}
abbrev Mu(P:I){b}(s:Sem b):Prop:=Mc P (λ_=>True) s
def Mu.bind{s}{k:b->Sem a}(h:Mu P s)(E:∀c,Mu P (k c)):Mu P (s >>= k):=Mc.bind h λc _=>E c
def Mu.ff(s x d):Mc P (λv=>∃b,v=Value.float d b) (Conv.floatToFloat s x d):=by
 unfold Conv.floatToFloat
 repeat' first
  |exact trivial
  |exact⟨_,iI⟩
  |exact λ_=>⟨_,iI⟩
  |rw[pure_bind]
  |split
  |dsimp only
def Mu.arith(op k x y):Mu P (yf op k x y):=by
 unfold yf;refine Mc.bind (X6 op k x y) λv h=>?_;obtain⟨b,rfl⟩:=h;exact trivial
def Mu.cmp(op k x y):Mu P (yr op k x y):=by
 unfold yr;refine Mc.bind (CL op k x y) λv h=>?_;obtain⟨b,rfl⟩:=h;exact trivial
def Mu.conv(s x d):Mu P (xl s x d):=by
 unfold xl;split
 ·exact trivial
 ·refine Mc.bind (Mu.ff s x d) λv h=>?_;obtain⟨b,rfl⟩:=h;exact trivial
def Mu.product(a b c d):Mu P (yn a b c d):=by
 unfold yn xu mn zn
 repeat' first|exact trivial|refine Mu.bind (Mu.arith _ _ _ _) (λ_=>?_)
def Mu.corrected(s a b c d):Mu P (sj s a b c d):=by
 unfold sj xu mn zn
 repeat' first|exact trivial|refine Mu.bind (Mu.arith _ _ _ _) (λ_=>?_)
def Mu.quotient(a b c d):Mu P (mo a b c d):=by
 unfold mo xu mn zn Op.Complex.quo
 repeat' first|exact trivial|exact Mu.corrected _ _ _ _ _|refine Mu.bind (Mu.arith _ _ _ _) (λ_=>?_)|refine Mu.bind (Mu.cmp _ _ _ _) (λ_=>?_)|rw[pure_bind]|dsimp only|split
def Z8(op k a b c d):Mc P Fl0 (ku op k a b c d):=by
 unfold ku
 repeat' first
  |exact trivial
  |exact .inr (.inl ⟨_,iI⟩)
  |exact .inr (.inr ⟨_,_,_,iI⟩)
  |refine Mc.bind (Mu.arith _ _ _ _) (λ_ _=>?_)
  |refine Mc.bind (Mu.cmp _ _ _ _) (λ_ _=>?_)
  |refine Mc.bind (Mu.conv _ _ _) (λ_ _=>?_)
  |refine Mc.bind (Mu.product _ _ _ _) (λ_ _=>?_)
  |refine Mc.bind (Mu.quotient _ _ _ _) (λ_ _=>?_)
  |dsimp only
  |split
def Rf.complexOp(op k a b c d):Db H P n (Az n) (ku op k a b c d) (ku op k a b c d):=Mc.rf (λx h=>h.ren) (Z8 op k a b c d)
def Rf.equal(p:n.Fix P.globals.size){m}(h:Zh P m t=km)(x y):Db H P n id (ue t x y) (ue t (Az n x) (Az n y)):=Rf.equalIn p m t h _ x y
end
section
variable {n:Ren}
def Rf.boolOf{t}(h:Db H P n id s t):Db H P n (Az n) (do Pure.pure (Value.bool (←s))) (do Pure.pure (Value.bool (←t))):=Rf.bind h λ_=>Rf.pure Ad
def Rf.notOf{t}(h:Db H P n id s t):Db H P n (Az n) (do Pure.pure (Value.bool (!(←s)))) (do Pure.pure (Value.bool (!(←t)))):=Rf.bind h λ_=>Rf.pure Ad
def Rf.iteStuck{a}[Decidable a]{f:b->c}{s t}(h:¬a->Db H P n f s t):Db H P n f (if a then Go.stuck m else s) (if a then Go.stuck m else t):=by
 split
 ·exact Rf.stuck
 ·exact h ‹_›
def Rf.ite{a}[Decidable a]{f:b->c}{s W t S}(h:Db H P n f s t)(d:Db H P n f W S):Db H P n f (if a then s else W) (if a then t else S):=by
 split
 ·exact h
 ·exact d
def Rf.binOp(p:n.Fix P.globals.size)(f t x y)(h:f=.eql∨f=.neq->Db H P n id (ue t x y) (ue t (Az n x) (Az n y))):Db H P n (Az n) (Go.binOp f t x y) (Go.binOp f t (Az n x) (Az n y)):=by
 cases x with
 |int k a=>
  cases y with
  |int q b=>
   simp only[B0];cases f
   case shl=>exact(Rf.shift .shl k a q b:Db H P n (Az n) (ud .shl k a q b) _)
   case shr=>exact(Rf.shift .shr k a q b:Db H P n (Az n) (ud .shr k a q b) _)
   all_goals refine Rf.iteStuck λ_=>?_
   all_goals first|exact Rf.intArith _ _ _ _|exact Rf.intDiv _ _ _ _|exact Rf.intBits _ _ _ _|exact Rf.intCmp _ _ _
  |pointer b=>
   simp only[B0,A8]at h⊢;cases f
   case eql=>exact Rf.boolOf (h (.inl iI))
   case neq=>exact Rf.notOf (h (.inr iI))
   case add=>have:=Rf.movedNumber (P:=P) (n:=n) (H:=H) t (.pointer b) (.int k a);rw[B0,A8]at this;exact this
   case and=>
    cases b with
    |none=>exact Rf.unsup
    |some b=>exact Rf.bind (Rf.behindNumber b) λ_=>Rf.addrMod _ _ _
   all_goals first|exact Rf.unsup|(cases b<;>exact Rf.unsup)
  |_=>
   exact Sot
 |float k a=>
  cases y with
  |float q b=>
   simp only[B3];cases f
   all_goals refine Rf.iteStuck λ_=>?_
   all_goals first|exact Rf.floatArith _ _ _ _|exact Rf.floatCmp _ _ _ _
  |pointer b=>
   simp only[B3,A8]at h⊢;exact Ybg
  |_=>
   exact Sot
 |complex k a c=>
  cases y with
  |complex q b d=>
   simp only[B1];cases f
   all_goals refine Rf.iteStuck λ_=>?_
   all_goals exact Rf.complexOp _ _ _ _ _ _
  |pointer b=>
   simp only[B1,A8]at h⊢;exact Ybg
  |_=>
   exact Sot
 |string a=>
  cases y with
  |string b=>
   have e:Go.binOp f t (.string a) (.string b)=o6 f a b:=by cases f<;>rfl
   rw[Bc,Bc,e];exact Rf.stringOp _ _ _
  |pointer b=>
   simp only[Bc,A8]at h⊢;exact Ybg
  |_=>
   exact Sot
 |pointer a=>
  cases y with
  |int k b=>
   simp only[B0,A8]at h⊢;cases f
   case eql=>exact Rf.boolOf (h (.inl iI))
   case neq=>exact Rf.notOf (h (.inr iI))
   case add=>
    refine Rf.bind (Rf.underlying t) λd=>?_;simp only[id];have C:=Rf.movedPointer (P:=P) (n:=n) (H:=H) t (.pointer a) (.int k b);have J:=Rf.movedNumber (P:=P) (n:=n) (H:=H) t (.pointer a) (.int k b);rw[B0,A8]at C J;split
    ·exact C
    ·exact J
   case sub=>have:=Rf.movedNumber (P:=P) (n:=n) (H:=H) t (.pointer a) (.int k (-b));rw[B0,A8]at this;exact this
   case rem=>
    exact Th6
   case and=>
    exact Th6
   all_goals (cases a<;>exact Rf.unsup)
  |pointer b=>
   simp only[A8]at h⊢;cases f
   case eql=>exact Rf.boolOf (h (.inl iI))
   case neq=>exact Rf.notOf (h (.inr iI))
   all_goals (cases a<;>cases b)
   all_goals first|exact Rf.unsup|exact Rf.bind (Rf.behindNumber _) λ_=>Rf.bind (Rf.behindNumber _) λ_=>Rf.addrSub p _ _ _|exact Rf.bind (Rf.behindNumber _) λ_=>Rf.bind (Rf.behindNumber _) λ_=>Rf.addrCmp p _ _ _
  |_=>
   simp only[Cq,B0,B3,B1,Bc,B5,Bu,Bm,C9,Dg,Cn,Cf,Cc,Ce,A8]at h⊢;cases f
   case eql=>exact Rf.boolOf (h (.inl iI))
   case neq=>exact Rf.notOf (h (.inr iI))
   all_goals (cases a<;>exact Rf.unsup)
 |_=>
  cases y with
  |pointer b=>
   simp only[Cq,B0,B3,B1,Bc,B5,Bu,Bm,C9,Dg,Cn,Cf,Cc,Ce,A8]at h⊢;exact Ybg
  |_=>
   exact Sot
def Rf.eqGuard(c t x y a b):Db H P n id (Go.eqGuard c t x y a b) (Go.eqGuard c t x y (Az n a) (Az n b)):=by
 have M:(c=.eql∨c=.neq)∨Go.eqGuard c t x y a b=Pure.pure ()/\Go.eqGuard c t x y (Az n a) (Az n b)=Pure.pure ():=by cases c<;>first|exact .inl (.inl iI)|exact .inl (.inr iI)|exact .inr ⟨iI,iI⟩
 rcases M with M|⟨S,L⟩
 ·have F:∀a b,Go.eqGuard c t x y a b=Go.eqGuard .eql t x y a b:=by rcases M with rfl|rfl<;>exact λ_ _=>rfl
  rw[F,F];unfold Go.eqGuard;simp only[Bool.not_true,aR,↓reduceIte];cases a with
  |nilIface=>
   cases b with
   |nilIface=>
    have h:=Rf.eqGuardIn (P:=P) (n:=n) (H:=H) iq t .nilIface .nilIface;simp only[Bu]at h⊢;exact Tqo
   |_=>simp only[Cq,B0,B3,B1,Bc,B5,Bu,Bm,C9,Dg,Cn,Cf,Cc,Ce,A8];exact Rf.pure iI
  |agg X=>
   cases b with
   |agg j=>
    have h:=Rf.eqGuardIn (P:=P) (n:=n) (H:=H) iq t (.agg X) (.agg j);simp only[Cc]at h⊢;refine Rf.bind Rf.program λp=>Rf.bind Rf.program λq=>?_;simp only[id];exact Tqo
   |_=>simp only[Cq,B0,B3,B1,Bc,B5,Bu,Bm,C9,Dg,Cn,Cf,Cc,Ce,A8];exact Rf.pure iI
  |_=>simp only[Cq,B0,B3,B1,Bc,B5,Bu,Bm,C9,Dg,Cn,Cf,Cc,Ce,A8];exact Rf.pure iI
 ·rw[S,L];exact Rf.pure iI
end
section
variable {n:Ren}
def Rf.listForInMap{f:a->d}{k:a->b->Sem (ForInStep b)}{q:d->b->Sem (ForInStep b)}(h:∀x y,Db H P n id (k x y) (q (f x) y)):∀(l:List a)c,Db H P n id (forIn l c k) (forIn (l.map f) c q)
 |[],c=>by exact Rf.pure iI
 |x::l,c=>by
  rw[bC,fL,fL];refine Rf.bind (h x c) λs=>?_;cases s with
  |done c=>exact Rf.pure iI
  |yield c=>exact Rf.listForInMap h l c
def Rf.arrayForInMap{f:a->d}{k:a->b->Sem (ForInStep b)}{q:d->b->Sem (ForInStep b)}(h:∀x y,Db H P n id (k x y) (q (f x) y))(l:Array a)(c):Db H P n id (forIn l c k) (forIn (l.map f) c q):=by
 rw[←eS,←eS,bU];exact Rf.listForInMap h _ _
def Rf.congr{f:b->c}{s W t S}(h:Db H P n f W S)(d:∀v,s.runT P v #[]=W.runT P v #[])(R:∀v,t.runT P v #[]=S.runT P v #[]):Db H P n f s t:=by
 have a:∀v,s.run P v=W.run P v:=λv=>by simp_all
 have L:∀v,s.events P v #[]=W.events P v #[]:=λv=>aJ Prod.snd (d v);have g:∀v,t.run P v=S.run P v:=λv=>by simp_all
 have i:∀v,t.events P v #[]=S.events P v #[]:=λv=>aJ Prod.snd (R v);refine⟨λv e U Q p Y=>by rw[L];exact h.1 v e U Q p (a v▸Y),λv x U Q p Y=>h.2 v x U Q p (a v▸Y),λJ u v w d Q p O e U Y j=>?_⟩;rw[L]at O⊢;rw[a]at Y;rw[g,i];exact h.3 J u v w d Q p O e U Y j
def Z7(e)(c:gY)(k:E->Sem a)(v):(Go.newRow e c >>= λb=>Go.markStringish b >>= λ_=>k b).runT P v #[]=(Go.newObj (.cells c e (c.size,c.size+1)) >>= λr=>k (iC r)).runT P v #[]:=by
 show(k (iC v.1.size) |> λs=>(Go.markStringish (iC v.1.size) >>= λ_=>s).runT P _ #[])=(k (iC v.1.size)).runT P _ #[];have d:uh { v with heap:=v.1.push (.cells c e) } v.1.size=lj (e,c.size):=by simp[uh]
 show((match uh _ v.1.size with|some (_,m)=>Go.freeze _ 1|_=>Pure.pure ()) >>= λ_=>k (iC v.1.size)).runT P _ #[]=_;rw[d]
 show(k (iC v.1.size)).runT P _ #[]=_
 congr 1
 unfold World.freeze;simp only[Nat.one_ne_zero,bR]
 congr 1
 grind
def Rf.bytesToString(x):Db H P n (Az n) (zb x) (zb (Az n x)):=by
 cases x with
 |slice a l c=>
  rw[Bm];cases a with
  |none=>exact Rf.pure Ad
  |some a=>
   refine Rf.bind (Rf.loadCells _ _) λcs=>Rf.bind (Rf.arrayForInMap (λx y=>?_) _ _) λs=>Rf.pure Ad;exact Bga
 |_=>exact Rf.stuck
def Ac7(k)(f:UInt8->Int)(l:Array UInt8)(m):(l.map (λb=>Value.int k (f b))++Array.replicate m (Value.int k 0)).map (Az n)=l.map (λb=>Value.int k (f b))++Array.replicate m (Value.int k 0):=by
 simp[dC,dT]
def Rf.stringToBytes(e)(s:gU):Db H P n (Az n) (o4 e s) (o4 e s):=by
 refine Rf.bind (Rf.choose _) λI=>?_;simp only[id];generalize M:s.data.map _++Array.replicate _ _=c;have Y:c.map (Az n)=c:=by rw[←M,Ac7]
 refine Rf.congr ?_ (Z7 e c _) (Z7 e c _);have h:=Rf.newObj (P:=P) (n:=n) (H:=H) (o:=.cells c e (c.size,c.size+1)) trivial;rw[show Dq n _=.cells c e (c.size,c.size+1) by simp only[Dq,Y]]at h;exact Rf.bind h λr=>Rf.pure (by simp[Ei])
def Rf.floatToInt(k b d):Db H P n (Az n) (ny k b d) (ny k b d):=by
 unfold ny;split
 ·split
  ·exact Rf.pure Ad
  ·exact Rf.bind (Rf.choose _) λ_=>Rf.pure Ad
 ·exact Rf.bind (Rf.choose _) λ_=>Rf.pure Ad
def Aby(P:I)(s d:Z):Bool:=
 match P.underlying s,P.underlying d with
 |some (.int _),lj (.int _)=>km
 |some .string,lj (.slice e)=>match P.underlying e with|some (.int .u8)=>km|_=>sd
 |some (.slice e),lj .string=>match P.underlying e with|some (.int .u8)=>km|_=>sd
 |some .string,lj .string=>km
 |_,_=>sd
def Rf.convert(s d x)(h:Aby P s d=km):Db H P n (Az n) (Go.convert s d x) (Go.convert s d (Az n x)):=by
 unfold Go.convert;refine Rf.underlyingIn s λG j=>Rf.underlyingIn d λU g=>?_;unfold Aby at h;rw[j,g]at h;cases G with
 | int k=>
  cases U with
  | int q=>
   cases x with
   | int _ m=>rw[B0];exact Rf.pure Ad
   | float s b=>rw[B3];exact Rf.floatToInt _ _ _
   | pointer a=>cases a <;> exact Rf.unsup
   | _=>exact Rf.unsup
  | _=>cases h
 | string=>
  cases U with
  | string=>
   cases x with
   | string b=>rw[Bc];exact Rf.pure Ad
   | int k i=>rw[B0];exact Rf.pure Ad
   | _=>exact Rf.unsup
  | slice e=>
   cases x with
   | string b=>
    rw[Bc];dsimp only at h⊢;refine Rf.underlyingIn e λf N=>?_;rw[N]at h;cases f with
    | int k=>cases k <;> first|exact Rf.stringToBytes _ _|cases h
    | _=>cases h
   | slice a l c=>cases a <;> exact Rf.unsup
   | _=>exact Rf.unsup
  | _=>cases h
 | slice e=>
  cases U with
  | string=>
   have D:∀y:uo,Db H P n (Az n) (Go.underlying e >>= λu=>match u with
     | .int .u8=>zb y
     | .int .i32=>sq y
     | _=>Go.stuck "Convert: a slice of what to string?") (Go.underlying e >>= λu=>match u with
     | .int .u8=>zb (Az n y)
     | .int .i32=>sq (Az n y)
     | _=>Go.stuck "Convert: a slice of what to string?"):=λy=>by
    refine Rf.underlyingIn e λf N=>?_;dsimp only at h;rw[N]at h;cases f with
    | int k=>cases k <;> first|exact Rf.bytesToString _|cases h
    | _=>cases h
   have D:=D x;cases x with
   | int k i=>rw[B0];exact Rf.pure Ad
   | string b=>rw[Bc];exact Rf.pure Ad
   | _=>simp only[Cq,B0,B3,B1,Bc,B5,Bu,Bm,C9,Dg,Cn,Cf,Cc,Ce,A8]at D⊢;exact D
  | _=>cases h
 | _=>cases h
end
section
variable {n:Ren}
def EG(a b:hU):(a.map (Ei n)==b.map (Ei n))=(a==b):=by
 cases a<;>cases b<;>simp[Afb]
def MM(a b:hY):(a.map (sh n)==b.map (sh n))=(a==b):=by
 cases a<;>cases b<;>simp[SU]
def IY:∀d(a b:T),Instr.sameBits d (Az n a) (Az n b)=Instr.sameBits d a b:=by
 intro d
 induction d with
 |zero=>
  intro a b;cases a<;>cases b<;>simp only[Cq,B0,B3,B1,Bc,B5,Bu,Bm,C9,Dg,Cn,Cf,Cc,Ce,A8,Instr.sameBits,EG,MM]
 |succ d O=>
  intro a b;cases a<;>cases b<;>simp only[Cq,B0,B3,B1,Bc,B5,Bu,Bm,C9,Dg,Cn,Cf,Cc,Ce,A8,Instr.sameBits,EG,MM,O,gI,bU]
  congr 1
  rw[List.zip_map,List.all_map]
  congr 1
  funext x
  exact O _ _
def Rf.keyThatStays(a b):Db H P n (Az n) (Instr.keyThatStays a b) (Instr.keyThatStays (Az n a) (Az n b)):=by
 unfold Instr.keyThatStays;rw[IY];split
 ·exact Rf.pure iI
 ·refine Rf.bind (Rf.choose _) λc=>?_;simp only[id];split<;>exact Rf.pure iI
def NY(d k b):Instr.sameNow d (Az n k) (Az n b)=Instr.sameNow d k b:=by
 cases d<;>cases k<;>first|rfl|(cases b<;>simp only[Cq,B0,B3,B1,Bc,B5,Bu,Bm,C9,Dg,Cn,Cf,Cc,Ce,A8]<;>rfl)
abbrev Aeq(n:Ren):Option (Nat×T)->Option (Nat×T):=Option.map λx=>(x.1,Az n x.2)
def Xk(d k):∀X(i:Nat),Instr.findNow d (Az n k) (X.map (Is n)) i=(Instr.findNow d k X i).map (Aeq n)
 |[],_=>rfl
 |e::X,i=>by
  rw[bC];unfold Instr.findNow;rw[show(Is n e).key=Az n e.key from iI,NY];cases Instr.sameNow d k e.key with
  |none=>rfl
  |some b=>
   cases b with
   |true=>rfl
   |false=>exact Xk d k X _
def Rf.findAsking(p:n.Fix P.globals.size){m}(h:Zh P m t=km)(k):∀X(i:Nat),Db H P n (Aeq n) (Instr.findAsking t k X i) (Instr.findAsking t (Az n k) (X.map (Is n)) i)
 |[],_=>Rf.pure iI
 |e::X,i=>by
  refine Rf.bind (Rf.equal p h k e.key) λb=>?_;simp only[id];split
  ·exact Rf.pure iI
  ·exact Rf.findAsking p h k X _
def Rf.findKey(p:n.Fix P.globals.size){m}(h:Zh P m t=km)(k X):Db H P n (Aeq n) (Instr.findKey t k X) (Instr.findKey t (Az n k) (X.map (Is n))):=by
 refine Rf.bind (Rf.underlying t) λd=>?_;simp only[id];rw[Xk];cases Instr.findNow d k X 0 with
 |none=>exact Rf.findAsking p h k X 0
 |some r=>exact Rf.pure iI
def CJ(t):Kp P (Go.typeStr t):=Hv (Zw t) λi=>by
 dsimp only;split
 ·exact(Cu (h:=.unsupported (.noEntry _)) iI trivial).halts
 ·exact Hw _
def Rf.checkKey(e):∀m(t:q9)v,Db H P n id (Instr.checkKey e m t v) (Instr.checkKey e m t (Az n v))
 |0,t,v=>Rf.unsup
 |m+1,t,v=>by
  refine Rf.bind (Rf.underlying t) λd=>?_;cases d with
  |interface Z=>
   cases v with
   |iface S x=>
    rw[Cf];refine Rf.bind (Rf.typeInfo S) λi=>?_;simp only[id];by_cases M:(!i.9)=km
    ·apply Rf.never;simp only[M,bQ];by_cases N:e=km
     ·simp only[N,bQ];exact D7 (Jr _)
     ·simp only[N];exact Gk (CJ _) λ_=>D7 (Jr _)
    ·simp only[M];exact Rf.checkKey e m S x
   |nilIface=>rw[Bu];exact Rf.pure iI
   |_=>exact Rf.stuck
  |array l R=>
   cases v with
   |agg cs=>
    rw[Cc];refine Rf.bind (Rf.rangeForIn (λi y=>?_) _ _) λ_=>Rf.pure iI;exact Rf.bind (Rf.sizeOf _) λs=>Rf.bind (Rf.part _ _ _) λc=>Rf.bind (Rf.checkKey e m _ _) λ_=>Rf.pure iI
   |_=>exact Rf.stuck
  |struct L=>
   cases v with
   |agg cs=>
    rw[Cc];refine Rf.bind (Rf.arrayForInMem L _ λf I y=>?_) λ_=>Rf.pure iI;refine Rf.ite (Rf.bind (Rf.part _ _ _) λc=>Rf.bind (Rf.checkKey e m _ _) λ_=>Rf.pure iI) (Rf.pure iI)
   |_=>exact Rf.stuck
  |_=>exact Rf.pure iI
def IF(P:I)(t:Z):Bool:=match P.underlying t with|some (.map k _)=>Zh P 6 k|_=>km
def EY:Db H P n (Az n) (do pure (Value.map (lj (←Go.newObj (.map #[] 0))))) (do pure (Value.map (lj (←Go.newObj (.map #[] 0))))):=by
 have h:=Rf.newObj (P:=P) (n:=n) (H:=H) (o:=.map #[] 0) trivial;rw[show Dq n _=.map #[] 0 by simp[Dq]]at h;exact Rf.bind h λa=>Rf.pure Ad
def SJ(t r):Db H P n (Az n) (Instr.makeMap t r) (Instr.makeMap t (r.map (Az n))):=by
 cases r with
 |none=>exact EY
 |some x=>
  refine Rf.bind (Rf.underlying t) λd=>?_;cases d with
  |map k e=>exact Rf.bind (Rf.asInt x) λ_=>EY
  |_=>exact Rf.stuckBind
def Ni(X:Array po):(X.map (Is n)).isEmpty=X.isEmpty:=by simp[Array.isEmpty]
def Xu(p:n.Fix P.globals.size)(N:Hr P){M B}(i b)(h:Zh P 6 M=km)(X:Array po):Db H P n (Az n)
  (Instr.checkKey X.isEmpty 10000 M i >>= λ_=>Instr.findKey M i X.toList >>= λr=>match r with
   |some (_,v)=>(Pure.pure (v,km):Sem (T×Bool)) >>= λx=>Pure.pure (if b=km then Value.tuple #[x.1,.bool x.2] else x.1)
   |none=>Go.zeroValue B >>= λz=>(Pure.pure (z,sd):Sem (T×Bool)) >>= λx=>Pure.pure (if b=km then Value.tuple #[x.1,.bool x.2] else x.1))
  (Instr.checkKey (X.map (Is n)).isEmpty 10000 M (Az n i) >>= λ_=>Instr.findKey M (Az n i) (X.map (Is n)).toList >>= λr=>match r with
   |some (_,v)=>(Pure.pure (v,km):Sem (T×Bool)) >>= λx=>Pure.pure (if b=km then Value.tuple #[x.1,.bool x.2] else x.1)
   |none=>Go.zeroValue B >>= λz=>(Pure.pure (z,sd):Sem (T×Bool)) >>= λx=>Pure.pure (if b=km then Value.tuple #[x.1,.bool x.2] else x.1)):=by
 rw[Ni,bU];refine Rf.bind (Rf.checkKey _ _ _ _) λ_=>Rf.bind (Rf.findKey p h i X.toList) λr=>?_;cases r with
 |none=>
  refine Rf.bind (Rf.zeroValue N B) λz=>Rf.bind (f:=λx:T×Bool=>(Az n x.1,x.2)) (Rf.pure iI) λx=>Rf.pure ?_;cases b<;>simp
 |some r=>
  refine Rf.bind (f:=λx:T×Bool=>(Az n x.1,x.2)) (Rf.pure iI) λx=>Rf.pure ?_;cases b<;>simp
def ZG(p:n.Fix P.globals.size)(N:Hr P)(t x i b)(h:IF P t=km):Db H P n (Az n) (Instr.lookup t x i b) (Instr.lookup t (Az n x) (Az n i) b):=by
 unfold Instr.lookup;refine Rf.underlyingIn t λd y=>?_;unfold IF at h;rw[y]at h;cases d with
 |map M B=>
  cases x with
  |map r=>
   rw[C9];cases r with
   |none=>
    dsimp only[Option.map_none];exact Rf.bind (f:=Array.map (Is n)) (Rf.pure Ad) λa=>Xu p N i b h a
   |some r=>
    dsimp only[aI];refine Rf.getObjThen r (λo _=>?_) Ai0;cases o with
    |map a C=>
     simp only[Dq];exact Rf.bind (f:=Array.map (Is n)) (Rf.pure iI) λa=>Xu p N i b h a
    |_=>exact Rf.stuckBind
  |_=>exact Rf.stuckBind
 |_=>exact Rf.stuck
def RD(X:Array po)(i k v):(X.modify i λe=>{ e with key:=k,val:=v }).map (Is n)=(X.map (Is n)).modify i λe=>{ e with key:=Az n k,val:=Az n v }:=by
 apply bX;intro j;rw[aN,bS,bS,aN];split
 ·cases X[j]?<;>rfl
 ·rfl
def U7(p:n.Fix P.globals.size)(t x k v)(h:IF P t=km):Db H P n id (Instr.mapUpdate t x k v) (Instr.mapUpdate t (Az n x) (Az n k) (Az n v)):=by
 refine Rf.underlyingIn t λd y=>?_;unfold IF at h;rw[y]at h;cases d with
 |map M B=>
  cases x with
  |map r=>
   rw[C9];cases r with
   |none=>exact Rf.rt
   |some r=>
    refine Rf.getObjThen r (λo _=>?_) Ai0;cases o with
    |map a C=>
     refine Rf.bind (Rf.checkKey _ _ _ _) λ_=>?_;rw[bU];refine Rf.bind (Rf.findKey p h k a.toList) λb=>?_;cases b with
     |none=>
      have:=Rf.setObj (P:=P) (n:=n) (H:=λi=>H i∨i=r) (o:=.map (a.push { key:=k,val:=v,born:=C }) (C+1)) trivial Amy iI r (.inr iI);simp only[Dq,Array.map_push]at this;exact this
     |some b=>
      have E:=Rf.keyThatStays (P:=P) (n:=n) (H:=λi=>H i∨i=r) (((a[b.1]?).map (·.key)).getD k) k;have S:Az n (((a[b.1]?).map (·.key)).getD k)=(((a.map (Is n))[b.1]?).map (·.key)).getD (Az n k):=by
       rw[aN];cases a[b.1]?<;>rfl
      rw[S]at E;refine Rf.bind E λq=>?_;have:=Rf.setObj (P:=P) (n:=n) (H:=λi=>H i∨i=r) (o:=.map (a.modify b.1 λe=>{ e with key:=q,val:=v }) C) trivial Amy rfl r (.inr rfl);simp only[Dq,RD]at this;exact this
    |_=>exact Rf.stuck
  |_=>exact Rf.stuck
 |_=>exact Rf.stuck
def N7{f:a->d}:∀(l:List a)i,(l.eraseIdx i).map f=(l.map f).eraseIdx i
 |[],_=>Ad
 |x::l,0=>Ad
 |x::l,i+1=>by simp[N7 l i]
def ZF(p:n.Fix P.globals.size)(L c)(X:gY)(h:∀x,L[0]?=lj x->IF P x=km):Db H P n (Az n) (hh L c X) (hh L c (X.map (Az n))):=by
 unfold hh;rw[aN,aN];cases R:L[0]? with
 |none=>exact Rf.stuck
 |some t=>
  cases X[0]? with
  |none=>exact Rf.stuck
  |some x=>
   cases X[1]? with
   |none=>exact Rf.stuck
   |some k=>
    have h:=h t R;dsimp only[aI];refine Rf.underlyingIn t λd y=>?_;unfold IF at h;rw[y]at h;cases d with
    |map M B=>
     cases x with
     |map r=>
      rw[C9];cases r with
      |none=>exact Rf.bind (Rf.checkKey _ _ _ _) λ_=>Rf.pure Ad
      |some r=>
       dsimp only[aI];refine Rf.getObjThen r (λo _=>?_) Ai0;cases o with
       |map a C=>
        simp only[Dq];rw[Ni];refine Rf.bind (Rf.checkKey _ _ _ _) λ_=>?_;rw[bU];refine Rf.bind (Rf.findKey p h k a.toList) λb=>?_;cases b with
        |none=>
         have:=Rf.setObj (P:=P) (n:=n) (H:=λi=>H i∨i=r) (o:=.map a C) trivial Amy iI r (.inr iI);simp only[Dq]at this;exact Rf.bind this λ_=>Rf.pure Ad
        |some b=>
         have:=Rf.setObj (P:=P) (n:=n) (H:=λi=>H i∨i=r) (o:=.map (a.eraseIdxIfInBounds b.1) C) trivial Amy iI r (.inr iI);have e:(a.eraseIdxIfInBounds b.1).map (Is n)=(a.map (Is n)).eraseIdxIfInBounds b.1:=by
          apply Array.toList_inj.1;simp[N7]
         simp only[Dq,e]at this;exact Rf.bind this λ_=>Rf.pure Ad
       |_=>exact Rf.stuckBind
     |_=>exact Rf.stuckBind
    |_=>exact Rf.stuck
def Aex(t x):Db H P n (Az n) (Instr.range t x) (Instr.range t (Az n x)):=by
 have z:∀{H} l,Qf l->Db H P n (Az n) (do pure (Value.pointer (lj ⟨←Go.newObj l,0,jh⟩))) (do pure (Value.pointer (lj ⟨←Go.newObj (Dq n l),0,jh⟩))):=λ{H} l h=>Rf.bind (Rf.newObj h) λc=>Rf.pure (by simp[Ei]);refine Rf.bind (Rf.underlying t) λd=>?_;cases d with
 |string=>
  cases x with
  |string s=>rw[Bc];exact z _ trivial
  |_=>exact Rf.stuckBind
 |map k e=>
  cases x with
  |map b=>
   rw[C9];cases b with
   |none=>exact z _ trivial
   |some r=>
    refine Rf.getObjThen r (λo _=>?_) Ai0;cases o with
    |map a C=>exact z _ trivial
    |_=>exact Rf.stuckBind
  |_=>exact Rf.stuckBind
 |_=>exact Rf.stuckBind
theorem Aew(x:Value):Db H P n (Az n) (Instr.entry x) (Instr.entry (Az n x)):=by
 unfold Instr.entry
 cases x with
 | pointer b=>
  rw [A8]
  cases b with
  | none=>exact Rf.stuck
  | some b=>
   obtain⟨c,o,s⟩:=b
   cases o with
   | succ o=>exact Rf.stuck
   | zero=>
    dsimp only [Option.map_some,Ei]
    refine Rf.getObjThen c (fun o _=>?_) Ai0
    cases o with
    | mapIter r g f h=>
     simp only [Dq]
     cases r with
     | none=>exact Rf.stuck
     | some r=>
      dsimp only [Option.map_some]
      cases f.back? with
      | none=>exact Rf.stuck
      | some d=>
       dsimp only
       refine Rf.getObjThen r (fun o _=>?_) Ai0
       cases o with
       | map a C=>
        simp only [Dq]
        refine Rf.ite Rf.unsup ?_
        have e:(a.map (Is n)).find? (fun x=>x.born == d)=(a.find? (fun x=>x.born == d)).map (Is n):=by
         rw [Array.find?_map]
         rfl
        rw [e]
        cases a.find? (fun x=>x.born == d) with
        | none=>exact Rf.unsup
        | some e=>exact Rf.pure (by simp [Is])
       | _=>exact Rf.stuck
    | _=>exact Rf.stuck
 | _=>exact Rf.stuck
def Sn(p:po->Bool)(Q:∀e,p (Is n e)=p e)(X:Array po):(X.map (Is n)).filter p=(X.filter p).map (Is n):=by
 apply Array.toList_inj.1;simp only[dX,bU,List.filter_map,dT,Q]
def Xd(since:Nat)(seen:Array Nat)(es:Array po):Array (Option po):=
 (if(Array.filter (λx=>decide (x.born<since)) (Array.filter (λe=>!seen.contains e.born) es)).isEmpty=km then #[jh] else #[]) ++
  Array.map lj (Array.filter (λx=>decide (x.born<since)) (Array.filter (λe=>!seen.contains e.born) es)++Array.filter (λx=>decide (x.born ≥ since)) (Array.filter (λe=>!seen.contains e.born) es))
def WR(a b X):Xd a b (X.map (Is n))=(Xd a b X).map (Option.map (Is n)):=by
 unfold Xd;rw[Sn (λe=>!b.contains e.born) (λ_=>rfl),Sn (λx=>decide (x.born<a)) (λ_=>rfl),Sn (λx=>decide (x.born ≥ a)) (λ_=>rfl),Ni];generalize Array.filter (λx=>decide (x.born<a)) (Array.filter (λe=>!b.contains e.born) X)=A;generalize Array.filter (λx=>decide (x.born ≥ a)) (Array.filter (λe=>!b.contains e.born) X)=B;split<;>simp[dC,dT]
def SK(Y:H r)(m a C b X):Db H P n (Az n)
  (Go.choose (.mapNext (Xd a b X).size) >>= λc=>match (Xd a b X)[c]? with
   | some (lj e)=>Go.setObj r (.mapIter (lj m) a (b.push e.born) C) >>= λ_=>Pure.pure (.tuple #[.bool km,e.key,e.val])
   | some jh=>Pure.pure (.tuple #[.bool sd])
   | none=>Go.stuck "Next: no such candidate")
  (Go.choose (.mapNext (Xd a b (X.map (Is n))).size) >>= λc=>match (Xd a b (X.map (Is n)))[c]? with
   | some (lj e)=>Go.setObj (sh n r) (.mapIter (lj (sh n m)) a (b.push e.born) C) >>= λ_=>Pure.pure (.tuple #[.bool km,e.key,e.val])
   | some jh=>Pure.pure (.tuple #[.bool sd])
   | none=>Go.stuck "Next: no such candidate"):=by
 rw[WR,gI];refine Rf.bind (Rf.choose _) λc=>?_;simp only[id];rw[aN];cases(Xd a b X)[c]? with
 | none=>exact Rf.stuck
 | some e=>
  cases e with
  | none=>exact Rf.pure Ad
  | some e=>exact Rf.bind (Rf.setObj (o:=.mapIter (lj m) a (b.push e.born) C) trivial Amy iI r Y) λ_=>Rf.pure (by simp[Is])
def Ah4(x d t):Db H P n (Az n) (Instr.next x d t) (Instr.next (Az n x) d t):=by
 unfold Instr.next;cases x with
 |pointer b=>
  rw[A8];cases b with
  |none=>exact Rf.stuck
  |some b=>
   obtain⟨c,o,s⟩:=b;cases o with
   |succ o=>exact Rf.stuck
   |zero=>
    dsimp only[aI,Ei];refine Rf.getObjThen c (λo _=>?_) Ai0;cases o with
    |stringIter s i=>
     simp only[Dq];cases d with
     |false=>exact Rf.stuck
     |true=>
      refine Rf.ite ?_ (Rf.pure Ad);exact Rf.bind (Rf.setObj (o:=.stringIter s _) trivial Amy iI c (.inr iI)) λ_=>Rf.pure M2
    |mapIter r f g e=>
     simp only[Dq];cases d with
     |true=>cases r<;>exact Rf.stuck
     |false=>
      cases r with
      |none=>exact Rf.pure Ad
      |some r=>
       dsimp only[aI];refine Rf.getObjThen r (λo _=>?_) Ai0;cases o with
       |map a C=>
        simp only[Dq];have R:(a.map (Is n)).all (λx=>decide (x.born ≥ e))=a.all (λx=>decide (x.born ≥ e)):=by
         rw[←Array.all_toList,←Array.all_toList,bU,List.all_map]
         rfl
        rw[Ni,R];exact Rf.ite Rf.unsupBind (SK (.inl (.inr iI)) r f C g a)
       |_=>exact Rf.stuck
    |_=>exact Rf.stuck
 |_=>exact Rf.stuck
end
section
variable {n:Ren}
def Ah3(x y):Db H P n (Az n) (xr x y) (xr (Az n x) (Az n y)):=by
 cases x with
 |int k a=>
  exact U37
 |float k a=>
  cases y with
  |float q b=>
   rw[B3,B3];unfold xr;exact Gan
  |pointer b=>cases b<;>first|exact Rf.unsup|exact Rf.stuck
  |_=>exact Rf.stuck
 |string a=>
  exact Pyg
 |pointer a=>cases a<;>cases y<;>first|exact Rf.unsup|exact Rf.stuck|(rename_i b;cases b<;>first|exact Rf.unsup|exact Rf.stuck)
 |_=>cases y<;>first|exact Rf.stuck|exact Rf.unsup|(rename_i b;cases b<;>first|exact Rf.unsup|exact Rf.stuck)
def Ah2(x y):Db H P n (Az n) (kp x y) (kp (Az n x) (Az n y)):=by
 cases x with
 |int k a=>
  exact U37
 |float k a=>
  cases y with
  |float q b=>
   rw[B3,B3];unfold kp;exact Gan
  |pointer b=>cases b<;>first|exact Rf.unsup|exact Rf.stuck
  |_=>exact Rf.stuck
 |string a=>
  exact Pyg
 |pointer a=>cases a<;>cases y<;>first|exact Rf.unsup|exact Rf.stuck|(rename_i b;cases b<;>first|exact Rf.unsup|exact Rf.stuck)
 |_=>cases y<;>first|exact Rf.stuck|exact Rf.unsup|(rename_i b;cases b<;>first|exact Rf.unsup|exact Rf.stuck)
def AP{f g:T->T->Sem T}(h:∀x y,Db H P n (Az n) (f x y) (g (Az n x) (Az n y))):∀(l:gZ)x,Db H P n (Az n) (l.foldlM f x) ((l.map (Az n)).foldlM g (Az n x))
 |[],x=>Rf.pure iI
 |y::l,x=>by
  exact Rf.bind (h x y) λz=>AP h l z
def Alq(L t)(X:gY):Db H P n (Az n) (nk L t X) (nk L t (X.map (Az n))):=by
 unfold nk;rw[bU];cases X.toList with
 |nil=>exact Rf.stuck
 |cons x l=>exact AP Ah3 l x
def Alp(L t)(X:gY):Db H P n (Az n) (o5 L t X) (o5 L t (X.map (Az n))):=by
 unfold o5;rw[bU];cases X.toList with
 |nil=>exact Rf.stuck
 |cons x l=>exact AP Ah2 l x
def Ade(P:I)(ts:Array Z):Bool:=match ts[0]? with
 |some t=>match P.underlying t with|some (.chan _ _)=>sd|_=>km
 |none=>km
def Alo(L b)(X:gY)(K:Ade P L=km):Db H P n (Az n) (zj L b X) (zj L b (X.map (Az n))):=by
 unfold zj;rw[aN];unfold Ade at K;cases R:L[0]? with
 |none=>exact Rf.stuck
 |some t=>
  cases X[0]? with
  |none=>exact Rf.stuck
  |some x=>
   dsimp only[aI];refine Rf.underlyingIn t λd y=>?_;rw[R]at K;dsimp only at K;rw[y]at K;cases d with
   |string=>cases x<;>first|exact Rf.stuck|(rw[Bc];exact Rf.pure M2)
   |array l e=>exact Rf.pure M2
   |pointer e=>
    exact Pec
   |slice e=>cases x<;>first|exact Rf.stuck|(rw[Bm];exact Rf.pure M2)
   |map k e=>
    cases x with
    |map r=>
     rw[C9];cases r with
     |none=>exact Rf.pure M2
     |some r=>
      refine Rf.getObjThen r (λo _=>?_) Ai0;cases o with
      |map a C=>simp only[Dq];exact Rf.pure M2
      |_=>exact Rf.stuck
    |_=>exact Rf.stuck
   |chan Y e=>cases K
   |_=>exact Rf.stuck
def Aln(L a)(X:gY)(K:Ade P L=km):Db H P n (Az n) (zu L a X) (zu L a (X.map (Az n))):=by
 unfold zu;rw[aN];unfold Ade at K;cases R:L[0]? with
 |none=>exact Rf.stuck
 |some t=>
  cases X[0]? with
  |none=>exact Rf.stuck
  |some x=>
   dsimp only[aI];refine Rf.underlyingIn t λd y=>?_;rw[R]at K;dsimp only at K;rw[y]at K;cases d with
   |array l e=>exact Rf.pure M2
   |pointer e=>
    exact Pec
   |slice e=>cases x<;>first|exact Rf.stuck|(rw[Bm];exact Rf.pure M2)
   |chan Y e=>cases K
   |_=>exact Rf.stuck
end
def Zi:List String:=["internal/bytealg.CountString", "internal/bytealg.IndexByteString", "internal/bytealg.IndexString", "internal/bytealg.abigen_runtime_cmpstring"]
def DR(P:im)(f:FuncId):Bool:=
 match P.funcs[f]? with
 | some fn=>fn.body.isNone && fn.origin == "" && Zi.contains fn.name
 | none=>sd
section
variable {n:Ren}
def U6:∀k(a:E)(D:gU),Db H P n id (jy a k D) (jy (Ei n a) k D)
 |0,_,_=>Rf.pure iI
 |k+1,a,D=>by
  refine Rf.bind (Rf.load a _) λv=>?_;cases v with
  |int t i=>rw[B0];cases t<;>first|exact Rf.stuck|(exact U6 k _ _)
  |_=>exact Rf.stuck
def Kd(v):Db H P n id (gg v) (gg (Az n v)):=by
 cases v with
 |string s=>rw[Bc];exact Rf.pure iI
 |slice a l c=>
  rw[Bm];cases a with
  |none=>exact Rf.pure iI
  |some a=>exact U6 _ _ _
 |_=>exact Rf.stuck
def EX(x):Db H P n id (ie x) (ie (Az n x)):=by
 exact Bga
def ZH(V:gY):Db H P n (Az n) (zh V) (zh (V.map (Az n))):=by
 rcases V with⟨l⟩;rw[cG];rcases l with _|⟨x,_|⟨y,_|⟨z,l⟩⟩⟩
 ·exact Rf.stuck
 ·exact Rf.stuck
 ·exact Rf.bind (Kd x) λ_=>Rf.bind (EX y) λ_=>Rf.pure M2
 ·exact Rf.stuck
def CV(V:gY):Db H P n (Az n) (fu V) (fu (V.map (Az n))):=by
 rcases V with⟨l⟩;rw[cG];rcases l with _|⟨x,_|⟨y,_|⟨z,l⟩⟩⟩
 ·exact Rf.stuck
 ·exact Rf.stuck
 ·refine Rf.bind (Kd x) λa=>Rf.bind (EX y) λc=>?_;simp only[id];split<;>exact Rf.pure M2
 ·exact Rf.stuck
def CU(p:n.Fix P.globals.size)(s):Db H P n (Ei n) (Go.globalAddr s) (Go.globalAddr s):=by
 apply Rf.programIn;cases h:P.globals.findIdx? _ with
 |none=>exact Rf.stuck
 |some g=>
  have G:g<P.globals.size:=by
   have:=Array.findIdx?_eq_some_iff_getElem.1 h;exact this.1
  exact Rf.pure (by simp[Ei,show sh n g=g from p g G])
def ZI(p:n.Fix P.globals.size)(V:gY):Db H P n (Az n) (qv V) (qv (V.map (Az n))):=by
 rcases V with⟨l⟩;rw[cG];rcases l with _|⟨x,_|⟨y,_|⟨z,l⟩⟩⟩
 ·exact Rf.stuck
 ·exact Rf.stuck
 ·refine Rf.bind (Kd x) λa=>Rf.bind (Kd y) λb=>?_;refine Rf.bind (Rf.bind (CU p _) λa=>Rf.bind (Rf.load _ _) λv=>Rf.asInt v) λm=>?_;simp only[id];refine Rf.ite Rf.unsupBind (Rf.ite Rf.unsupBind ?_);split<;>exact Rf.pure M2
 ·exact Rf.stuck
def NT(V:gY):Db H P n (Az n) (ow V) (ow (V.map (Az n))):=by
 rcases V with⟨l⟩;rw[cG];rcases l with _|⟨x,_|⟨y,_|⟨z,l⟩⟩⟩
 ·exact Rf.stuck
 ·exact Rf.stuck
 ·exact Rf.bind (Kd x) λ_=>Rf.bind (Kd y) λ_=>Rf.pure M2
 ·exact Rf.stuck
def UK(p:n.Fix P.globals.size){fn}(O:fn.origin = "")(z:fn.name∈Zi):Extern.findNext fn=jh∧(fn.name == "runtime.NumGoroutine")=sd∧∃e,Extern.find fn=lj e∧∀V,Db H P n (Az n) (e V) (e (V.map (Az n))):=by
 simp only[Zi,bH,dL,or_false]at z;unfold Extern.findNext Extern.find;rcases z with h|h|h|h <;> rw[O,h]
 ·exact⟨Ab,Ab,zh,Ab,ZH⟩
 ·exact⟨Ab,Ab,fu,Ab,CV⟩
 ·exact⟨Ab,Ab,qv,Ab,ZI p⟩
 ·exact⟨Ab,Ab,ow,Ab,NT⟩
def Aov(n:Ren):Except (Option Bool) (Z×Option T)->Except (Option Bool) (Z×Option T)
 |.error e=>.error e
 |.ok (t,x)=>.ok (t,x.map (Az n))
def Jt:∀l(t:Z)x,Db H P n (Aov n) (Go.followBlind l t x) (Go.followBlind l t (x.map (Az n)))
 |[],t,x=>Rf.pure iI
 |s::l,t,x=>by
  refine Rf.bind (Rf.underlying _) λd=>?_;simp only[id];cases d with
  |struct L=>
   dsimp only;cases L[s.index]? with
   |none=>exact Rf.stuck
   |some f=>
    cases s.deref with
    |true=>
     cases x with
     |none=>exact Rf.pure iI
     |some x=>
      cases x with
      |pointer a=>
       rw[aI,A8];cases a with
       |none=>exact Rf.pure iI
       |some a=>exact Jt l f.type jh
      |_=>exact Rf.stuck
    |false=>
     cases x with
     |none=>exact Jt l f.type jh
     |some x=>
      cases x with
      |agg cs=>
       rw[aI,Cc];exact Rf.bind (Rf.part _ _ _) λy=>Jt l f.type _
      |_=>exact Rf.stuck
  |_=>exact Rf.stuck
def Xv:∀k(t:Z)v(s:String),Db H P n id (Go.nilAhead k t v s) (Go.nilAhead k t (Az n v) s)
 |0,_,_,_=>Rf.pure iI
 |k+1,t,v,s=>by
  refine Rf.bind (Rf.typeInfo t) λi=>?_;simp only[id];cases i.methods.find? _ with
  |none=>exact Rf.stuck
  |some m=>
   refine Rf.bind (Jt m.path.toList t (lj v)) λr=>?_;cases r with
   |error e=>exact Rf.pure iI
   |ok y=>
    have ⟨j,x⟩:=y;simp only[Aov];cases m.func with
    |none=>
     cases x with
     |none=>exact Rf.pure iI
     |some x=>
      cases x with
      |iface S U=>rw[aI,Cf];exact Xv k S U s
      |nilIface=>rw[aI,Bu];exact Rf.pure iI
      |_=>exact Rf.stuck
    |some I=>
     have ⟨f,b⟩:=I;cases b with
     |true=>exact Rf.pure iI
     |false=>
      refine Rf.bind (Rf.underlying j) λd=>?_;cases d with
      |pointer e=>
       cases x with
       |none=>exact Rf.pure iI
       |some x=>
        cases x with
        |pointer a=>rw[aI,A8];cases a<;>exact Rf.pure iI
        |_=>simp only[aI,Cq,B0,B3,B1,Bc,B5,Bu,Bm,C9,Dg,Cn,Cf,Cc,Ce];exact Rf.pure iI
      |_=>exact Rf.pure iI
end
def Qz:T->Bool
 |.pointer jh|.slice jh _ _|.map jh|.chan jh|.bool _|.int _ _|.float _ _|.complex _ _ _|.string _|.nilFunc|.nilIface=>km
 |_=>sd
def Yg:T->Bool
 |.agg cs=>cs.all Qz
 |.tuple cs=>cs.all Qz
 |v=>Qz v
def GK:T->Bool
 |.agg cs=>cs.all Yg
 |.tuple cs=>cs.all Yg
 |v=>Qz v
def Pv{n v}(h:Qz v=km):Az n v=v:=by
 cases v with
 |pointer a=>cases a with|none=>simp|some a=>cases h
 |slice a l c=>cases a with|none=>simp|some a=>cases h
 |map a=>cases a with|none=>simp|some a=>cases h
 |chan a=>cases a with|none=>simp|some a=>cases h
 |_=>first|(simp;done)|cases h
def Xf{n}(h:cs.all Qz=km):cs.map (Az n)=cs:=by
 apply bX;intro i;rw[aN];cases V:cs[i]? with
 |none=>rfl
 |some v=>
  rw[cU]at h;exact aJ lj (Pv (h v (cF V)))
def KO{n v}(h:Yg v=km):Az n v=v:=by
 cases v with
 |agg cs=>rw[Cc,Xf h]
 |tuple cs=>rw[Ce,Xf h]
 |_=>exact Pv h
def Xg{n}(h:cs.all Yg=km):cs.map (Az n)=cs:=by
 apply bX;intro i;rw[aN];cases V:cs[i]? with
 |none=>rfl
 |some v=>
  rw[cU]at h;exact aJ lj (KO (h v (cF V)))
def Xh{n v}(h:GK v=km):Az n v=v:=by
 cases v with
 |agg cs=>rw[Cc,Xg h]
 |tuple cs=>rw[Ce,Xg h]
 |_=>exact Pv h
def Eh(G:Nat):O->Bool
 |.tmp _|.func _=>km
 |.const v=>GK v
 |.global g=>decide (g<G)
def Eu(n):Az n undef=undef:=by simp[undef]
def Zt{n}(a:gY)(t):(a.map (Az n)).getD t undef=Az n (a.getD t undef):=by
 rw[cE,cE,aN];cases a[t]? with
 |none=>exact(Eu n).symm
 |some v=>rfl
def P2{n G}(p:n.Fix G)(X V:Frame)(R:V.tmps=X.tmps.map (Az n))(x)(h:Eh G x=km):V.eval x=Az n (X.eval x):=by
 cases x with
 |tmp t=>unfold Frame.eval;rw[R];exact Zt _ _
 |const v=>exact(Xh h).symm
 |global g=>
  show Value.pointer _=Az n (iB g);simp[Ei,show sh n g=g from p g (by simpa[Eh] using h)]
 |func f=>
  show Value.func _ #[] #[]=Az n (.func (.func f) #[] #[]);simp[Mq]
def Kz(n:Ren):Next->Next
 |.value v=>.value (Az n v)
 |.enter f as=>.enter f (as.map (Az n))
 |x=>x
def Uh:O->Bool
 |.const (.pointer jh)=>km
 |_=>sd
def eqR(P:I)(t:Z)(x y:O):Bool:=
 Zh P 6 t||((match P.underlying t with|some (.pointer _)=>km|_=>sd)&&(Uh x||Uh y))
def Ana(P:I)(ts:Array Z):Bool:=match ts[1]? with
 |some xt=>match P.underlying xt with|some (.int _)=>sd|_=>km
 |none=>km
def Ry(P:I)(S:FuncId->Bool)(c:Call):Bool:=
 c.args.all (Eh P.globals.size)&&match c.callee with
 |.builtin .append=>Ana P c.argTypes
 |.builtin .len|.builtin .cap=>Ade P c.argTypes
 |.builtin .copy|.builtin .min|.builtin .max=>km
 |.builtin .delete=>match c.argTypes[0]? with|some t=>IF P t|none=>km
 |.value (.func f)=>S f||DR P f
 |_=>sd
def fnR:Fn->Bool
 |.func _=>km
 |_=>sd
def opR(P:I)(S:FuncId->Bool)(o:Oper):Bool:=
 let k:=Eh P.globals.size
 match o.op with
 |.move x|.assign x|.box _ x|.load _ x|.nilCheck x|.unOp _ _ x|.fieldAddr _ x _|.field _ x _|.extract x _|.range _ x|.next x _|.entry x=>k x
 |.pick c a b=>k c&&k a&&k b
 |.alloc _=>km
 |.build _ ps|.buildSlice _ _ ps=>ps.all λx=>k x.2
 |.store _ a x|.makeSlice _ a x|.indexAddr _ a x|.index _ a x=>k a&&k x
 |.makeFunc f a b=>fnR f&&a.all k&&b.all k
 |.slice _ x lo hi mx=>k x&&lo.all k&&hi.all k&&mx.all k
 |.binOp op t x y _=>k x&&k y&&(match op with|.eql|.neq=>eqR P t x y|_=>km)
 |.convert s d x=>k x&&Aby P s d
 |.call c=>Ry P S c
 |.makeMap _ r=>r.all k
 |.lookup t x i _=>k x&&k i&&IF P t
 |.mapUpdate t a b c|.insert t a b c=>k a&&k b&&k c&&IF P t
 |_=>sd
section
variable {n:Ren}
def El{s t}(h:Rf P n (Az n) s t):Rf P n (Kz n) (s >>= λx=>Pure.pure (w9 x)) (t >>= λx=>Pure.pure (w9 x)):=Rf.bind h λ_=>Rf.pure iI
def IW{s t:Sem Unit}(h:Rf P n id s t):Rf P n (Kz n) (s >>= λ_=>Pure.pure Next.skip) (t >>= λ_=>Pure.pure Next.skip):=Rf.bind h λ_=>Rf.pure iI
def EP{a:O->T}(B:∀x,Eh P.globals.size x=km->F x=Az n (a x))(b:Array (Nat×O))(h:(b.all λx=>Eh P.globals.size x.2)=km):(b.map λx=>(x.1,F x.2))=(b.map λx=>(x.1,a x.2)).map λx=>(x.1,Az n x.2):=by
 rw[Array.map_map]
 grind
def Jg{a:O->T}(B:∀x,Eh P.globals.size x=km->F x=Az n (a x))(V:Array O)(h:V.all (Eh P.globals.size)=km):V.map F=(V.map a).map (Az n):=by
 grind
def Yp{a:O->T}(B:∀x,Eh P.globals.size x=km->F x=Az n (a x))(b:Option O)(h:b.all (Eh P.globals.size)=km):b.map F=(b.map a).map (Az n):=by
 cases b with
 |none=>rfl
 |some x=>grind
end
section
variable {n:Ren}
def NR(f)(a b:gY)(h:fnR f=km):Rf P n (Az n) (Instr.makeFunc f a b) (Instr.makeFunc f (a.map (Az n)) (b.map (Az n))):=by
 cases f with
 |func g=>exact Rf.pure (by simp[Mq])
 |_=>cases h
def Xt(p:n.Fix P.globals.size){S:FuncId→Bool}(H:∀f,S f=km→∃fn c,P.funcs[f]? = lj fn∧(fn.name == "runtime.NumGoroutine")=sd∧fn.body=lj c)(f)(V:gY)(h:(S f || DR P f)=km):Rf P n (Kz n) (Go.callFunc f V) (Go.callFunc f (V.map (Az n))):=by
 unfold Go.callFunc;apply Rf.programIn;rw[eT]at h;rcases h with h|h
 ·obtain⟨fn,c,C,J,T⟩:=H f h;have D:fn.body.isNone=sd:=by rw[T];rfl
  rw[C];dsimp only;rw[J,D];exact Rf.pure iI
 ·unfold DR at h;cases G:P.funcs[f]? with
  | none=>rw[G]at h;cases h
  | some fn=>
   rw[G]at h;simp only[aU]at h;obtain⟨⟨D,O⟩,z⟩:=h;obtain⟨C,J,e,T,q⟩:=UK (P:=P) (n:=n) p (fn:=fn) (by simpa using O) (by simpa using z);dsimp only;rw[J,D,C,T];exact Rf.bind (Rf.mark trivial) λ_=>Rf.bind (q V) λ_=>Rf.pure iI
def NS(x):Rf P n (Kz n)
  (match x with
   | .pointer jh|.nilIface|.nilFunc=>Go.runtimePanic .nilDeref
   | .func (.method d) e c=>
    match (e[0]? : Option uo) with
    | some .nilIface=>Go.runtimePanic .nilDeref
    | some (.iface t w)=>do
     if(←nilAhead ((←program).types.size+Made.depth) t w d) != lj sd then
      unsupported (.noEntry "op/nilCheck.the method's receiver behind this interface value is a nil pointer, or cannot be seen to be none, and the arguments act or may panic (ledger 612)")
     pure (.value (.func (.method d) e c))
    | _=>pure (.value (.func (.method d) e c))
   | x=>pure (.value x))
  (match Az n x with
   | .pointer jh|.nilIface|.nilFunc=>Go.runtimePanic .nilDeref
   | .func (.method d) e c=>
    match (e[0]? : Option uo) with
    | some .nilIface=>Go.runtimePanic .nilDeref
    | some (.iface t w)=>do
     if(←nilAhead ((←program).types.size+Made.depth) t w d) != lj sd then
      unsupported (.noEntry "op/nilCheck.the method's receiver behind this interface value is a nil pointer, or cannot be seen to be none, and the arguments act or may panic (ledger 612)")
     pure (.value (.func (.method d) e c))
    | _=>pure (.value (.func (.method d) e c))
   | x=>pure (.value x)):=by
 cases x with
 | pointer a=>rw[A8];cases a with
  | none=>exact Rf.rt
  | some a=>exact Rf.pure (by simp[Kz])
 | nilIface=>exact Rf.rt
 | nilFunc=>exact Rf.rt
 | func f a b=>
  rw[Cn];cases f with
  | method d=>
   simp only[Mq];rw[aN];have Q:Rf P n (Kz n) (pure (w9 (.func (.method d) a b))) (pure (w9 (.func (.method d) (a.map (Az n)) (b.map (Az n))))):=Rf.pure (by simp[Kz,Mq]);cases a[0]? with
   | none=>exact Q
   | some v=>
    cases v with
    | nilIface=>exact Rf.rt
    | iface t w=>
     rw[aI,Cf];refine Rf.bind Rf.program λp=>Rf.bind (Xv _ t w d) λr=>?_;simp only[id];exact Rf.ite Rf.unsupBind Q
    | _=>simp only[aI,Cq,B0,B3,B1,Bc,B5,Bm,C9,Dg,Cn,Cc,Ce,A8];exact Q
  | _=>simp only[Mq];exact Rf.pure (by simp[Kz,Mq])
 | _=>simp only[Cq,B0,B3,B1,Bc,B5,Bu,Bm,C9,Dg,Cn,Cf,Cc,Ce,A8];exact Rf.pure (by simp[Kz])
def NP(p:n.Fix P.globals.size){a:O->T}(M:∀v,a (.const v)=v){x y}(h:eqR P t x y=km):Rf P n id (ue t (a x) (a y)) (ue t (Az n (a x)) (Az n (a y))):=by
 unfold eqR at h;rw[eT]at h;rcases h with h|h
 ·exact Rf.equal p h _ _
 ·rw[aU,eT]at h;have ⟨C,J⟩:=h;have b:∀{z},Uh z=km->a z=.pointer jh:=λ{z} N=>by
   unfold Uh at N
   grind
  cases r:P.underlying t with
  |none=>grind
  |some u=>
   rw[r]at C;cases u<;>first|contradiction|skip
   exact Rf.equalNil r (J.imp b b)
def Aox(p:n.Fix P.globals.size)(N:Hr P)(H:∀f,S f=km→∃u c,P.funcs[f]? = lj u∧(u.name == "runtime.NumGoroutine")=sd∧u.body=lj c){a F}(I:∀g,a (.func g)=.func (.func g) #[] #[])(M:∀v,a (.const v)=v)(B:∀x,Eh P.globals.size x=km→F x=Az n (a x)){o}(h:opR P S o=km):Rf P n (Kz n) (execOp a o) (execOp F o):=by
 unfold opR at h;unfold execOp;generalize o.op=q at h;cases q <;> first|contradiction|dsimp only at h⊢
 case move x=>exact Rf.pure (by rw[B x h];rfl)
 case assign x=>exact Rf.pure (by rw[B x h];rfl)
 case pick c b d=>
  simp only[aU]at h;rw[B c h.1.1,B b h.1.2,B d h.2];refine Rf.bind (Rf.asBool _) λd=>Rf.pure ?_;simp only[id];split <;> rfl
 case alloc t=>
  have:=El (Rf.alloc (P:=P) (n:=n) N t km (.tuple #[]))
  rwa[show Az n (.tuple #[])=.tuple #[] by simp]at this
 case box t x=>rw[B x h];exact El (Rf.box _ _)
 case build t i=>rw[EP B i h];exact El (Rf.build N _ _)
 case buildSlice t l i=>rw[EP B i h];exact El (Rf.buildSlice N _ _ _)
 case load t x=>rw[B x h];exact El (Rf.loadAt _ _)
 case store t b x=>
  simp only[aU]at h;rw[B b h.1,B x h.2];exact IW (Rf.storeAt _ _ _)
 case nilCheck x=>rw[B x h];exact NS _
 case binOp q t x y A=>
  simp only[aU]at h;rw[B x h.1.1,B y h.1.2];refine El (Rf.bind (Rf.eqGuard _ _ _ _ _ _) λ_=>Rf.binOp p _ _ _ _ λD=>?_);rcases D with rfl|rfl
  ·exact NP p M h.2
  ·exact NP p M h.2
 case unOp q t x=>rw[B x h];exact El (Rf.unary _ _)
 case convert s e x=>
  simp only[aU]at h;rw[B x h.1];exact El (Rf.convert _ _ _ h.2)
 case makeFunc f b d=>
  simp only[aU]at h;rw[Jg B b h.1.2,Jg B d h.2];exact El (NR _ _ _ h.1.1)
 case makeMap t r=>rw[Yp B r h];exact El (SJ _ _)
 case makeSlice t b x=>
  simp only[aU]at h;rw[B b h.1,B x h.2];exact El (Rf.makeSlice N _ _ _)
 case slice t x z V C=>
  simp only[aU]at h;rw[B x h.1.1.1,Yp B z h.1.1.2,Yp B V h.1.2,Yp B C h.2];exact El (Rf.sliceAt _ _ _ _ _)
 case fieldAddr s x f=>rw[B x h];exact El (Rf.fieldAt _ _ _)
 case field s x f=>rw[B x h];exact El (Rf.field _ _ _)
 case indexAddr t b x=>
  simp only[aU]at h;rw[B b h.1,B x h.2];exact El (Rf.indexAt _ _ _)
 case index t b x=>
  simp only[aU]at h;rw[B b h.1,B x h.2];exact El (Rf.index _ _ _)
 case lookup t x j d=>
  simp only[aU]at h;rw[B x h.1.1,B j h.1.2];exact El (ZG p N _ _ _ _ h.2)
 case mapUpdate t b d c=>
  exact Mxq
 case insert t b d c=>
  exact Mxq
 case range t x=>rw[B x h];exact El (Aex _ _)
 case next x d=>rw[B x h];exact El (Ah4 _ _ _)
 case entry x=>rw[B x h];exact El (Aew _)
 case extract x j=>rw[B x h];exact El (Rf.extract _ _)
 case call c=>
  unfold Ry at h;rw[aU]at h;obtain⟨w,h⟩:=h;unfold resolve;rw[Jg B c.args w];cases M:c.callee with
  | builtin d=>
   rw[M]at h
   show Rf P n (Kz n) (invoke (.builtin d c.argTypes o.type _) _) (invoke (.builtin d c.argTypes o.type _) _);unfold invoke builtin;cases d <;> first
    | contradiction
    | exact El (Rf.append N _ _ _ λk Z m E=>by simp[Ana,Z,E]at h)
    | exact El (Rf.copy _ _ _)
    | exact El (Alo _ _ _ h)
    | exact El (Aln _ _ _ h)
    | exact El (Alq _ _ _)
    | exact El (Alp _ _ _)
    | exact El (ZF p _ _ _ λG L=>by dsimp only at h;rwa[L]at h)
  | value f=>
   rw[M]at h;cases f with
   | func g=>
    dsimp only at h;have W:F (.func g)=.func (.func g) #[] #[]:=by rw[B (.func g) iI,I g];simp[Mq]
    have J:=Xt (P:=P) (n:=n) p H g (c.args.map a) h
    show Rf P n (Kz n) (k9 (a (.func g)) (c.args.map a) >>= λe=>invoke e.target e.args) (k9 (F (.func g)) ((c.args.map a).map (Az n)) >>= λe=>invoke e.target e.args);rw[I g,W]
    show Rf P n (Kz n) (callFunc g (#[]++c.args.map a++#[])) (callFunc g (#[]++(c.args.map a).map (Az n)++#[]));exact Ewc
   | _=>cases h
  | invoke r K=>rw[M]at h;cases h
end
end Go.Pair
