import Derived.Test.YtcbilgmfdgpomaaGreatDoorLets
import Derived.Test.YtcbilgmfdgpomaaGreatDoorQ14
set_option linter.all false
open List renaming length → iR,length → Y
open Array renaming size → iS
set_option maxHeartbeats 4000000
set_option maxRecDepth 8000
open Option renaming some → ni,none → su
open Bool renaming true → tu,false → o9
open Go renaming World → qg,Value → w8
open Go.Proofs.YtcbilgmfdgpomaaGreatDoor.Rows renaming laid_orchard_message_requests → afd,laid_orchard_message_answers → kqh,laid_orchard_watch_tellings → fou
open UInt8 renaming ofNat → yr
open Go.Value renaming string → x7
open Go.IntKind renaming i64 → yi
open Go.Ending renaming returned → xr
open Go.Proofs.YtcbilgmfdgpomaaGreatDoor renaming AS → M,Cp → U,ST → I,partOf → E,lenOf → K,hide → m,Hr → S,E4 → O
open Go.Proofs.Tryz
variable {B:gY}{F q x y z:hQ}{H j:Nat}{L cs:iC}{P t:Bool}{W:qg}
def Wqt{p:Prop}(h:p:=by
 rcases NO a b with h|⟨i,h⟩|⟨i,j,h⟩
 ·rw[h];decide +kernel
 ·rw[h];clear h;revert i;decide +kernel
 ·rw[h];clear h;revert i j;decide +kernel):p:=h
namespace Go.Proofs.YtcbilgmfdgpomaaGreatDoor
variable {Z l:List M}{e:I}
open Go.RowKit
def Aoc:prog.globalNamed "orchard/message.requests" = ni 0:=Ab
def Acv:(prog.globals[0]?).map (·.type)=ni 181:=Ab
def Aoa:prog.globalNamed "orchard/message.answers" = ni 3:=Ab
def Acs:(prog.globals[3]?).map (·.type)=ni 181:=Ab
def Abq:prog.cellsOf 180=3:=Ab
def Amg{H}{P:TypeId×w8->H}{a n}{k:Nat->Bool}{b}{l:hQ}{q}(h:DataW.trod P prog W a k b n 9 cs=ni (.lit (.string l),q)):cs = [x7 ⟨l.toArray⟩]:=by
 have ⟨s,e,Z,_⟩:=DataW.trod_string underlying9 h
 simp_all
def Afn{a b n x}(D:b<n)(h:(((L.drop a).take n).drop b).take 1 = [x]):L[a+b]?=ni x:=by
 have C:=aK (·[0]?) h
 grind
def OS{a b}{k:Nat->Bool}{c R r p}{l:hQ}(h:DataW.trod (λ_=>()) prog W a k c b 181 L=ni (.agg R,p)){i}(V:i<8)(d:j<3)(y:R[i]?=ni (.agg r))(Y:r[j]?=ni (.lit (.string l))):L[i * 3+j]?=ni (x7 ⟨l.toArray⟩):=by
 have ⟨D,Z,F,S,P⟩:=Lib.array_elem underlying181 h i V;obtain rfl:=aA (y.symm.trans S);rw[Abq]at P;have ⟨K,T,z,e,O⟩:=Lib.array_elem underlying180 P j d;obtain rfl:=aA (Y.symm.trans e);rw[Abx,gI]at O;exact Afn d (Amg O)
def Vs{w:qg}{n g}{cs:iB}(G:prog.globalNamed n=ni g)(H:w.var? prog n=ni cs){k x}(h:cs.toList[k]?=ni x):w.cell? (iK g k)=ni x:=by
 simp only[World.var?,G,eT]at H;split at H
 ·rename_i p I X D;injection H with H;subst H;unfold World.cell?;rw[D];simpa using h
 ·cases H
def Ej{w}(h:Lib.VarReads prog w "orchard/message.requests" afd){i j r}{l:hQ}(V:i<8)(a:j<3)(R:List (DataW Unit))(o:afd=.agg R)(y:R[i]? = ni (.agg r))(Y:r[j]? = ni (.lit (.string l))):w.cell? ⟨0,i * 3+j,su⟩=ni (x7 ⟨l.toArray⟩):=by
 have ⟨g,t,cs,b,p,G,v,H,s⟩:=h;obtain rfl:=aA (Aoc.symm.trans G);obtain rfl:=aA (Acv.symm.trans v);rw[o]at s;exact Vs Aoc H (OS s V a y Y)
def Er{w}(h:Lib.VarReads prog w "orchard/message.answers" kqh){i j r}{l:hQ}(V:i<8)(a:j<3)(R:List (DataW Unit))(o:kqh=.agg R)(y:R[i]? = ni (.agg r))(Y:r[j]? = ni (.lit (.string l))):w.cell? ⟨3,i * 3+j,su⟩=ni (x7 ⟨l.toArray⟩):=by
 have ⟨g,t,cs,b,p,G,v,H,s⟩:=h;obtain rfl:=aA (Aoa.symm.trans G);obtain rfl:=aA (Acs.symm.trans v);rw[o]at s;exact Vs Aoa H (OS s V a y Y)
def gTl:prog.globalNamed "orchard/watch.tellings" = ni 4:=Ab
def UP:(prog.globals[4]?).map (·.type)=ni 286:=Ab
def Abs:prog.cellsOf 285=1:=Ab
def Abt:prog.cellsOf 288=3:=Ab
def tlD(x:Tl):DataW Unit:=.agg [.lit (.int yi x.1),.lit (.bool x.2.1),.lit (.int yi x.2.2)]
def TQ{w a}{k:Nat->Bool}{c b q x}(h:DataW.trod (λ_=>()) prog w a k c b 288 cs=ni (tlD x,q)):cs = [iL x.1,.bool x.2.1,iL x.2.2]:=by
 obtain⟨X,n,_,Z,K,d,I⟩:=DataW.trod_struct underlying288 h
 match X,d with
 |[p,N,H],_=>
  match cs,K with
  |[i,v1,G],_=>
   have F:=I 0 _ iP;have C:=I 1 _ iP;have J:=I 2 _ iP;simp[Abu,Abv,QD]at F C J;obtain⟨M,e,rfl,_⟩:=DataW.trod_int underlying187 F;obtain⟨f,S,rfl⟩:=DataW.trod_bool underlying4 C;obtain⟨g,L,rfl,_⟩:=DataW.trod_int underlying3 J;simp[tlD]at Z e S L
   grind
def TR{w i cs q T}(V:T≠[])(h:DataW.trod (fun _=>()) Tryz.prog w 0 (fun _=>true) false i 285 cs=some (.slice (T.map tlD) [],q)) :
  ∃g o,cs = [.slice (some ⟨g,o,none⟩) T.length T.length]/\∀j x,T[j]? = some x->w.cell? ⟨g,o+j * 3,none⟩=some (.int .i64 x.1)/\w.cell? ⟨g,o+j * 3+1,none⟩=some (.bool x.2.1)/\w.cell? ⟨g,o+j * 3+2,none⟩=some (.int .i64 x.2.2):=by
 rcases DataW.trod_slice Tryz.underlying285 h with⟨_,Z⟩|⟨a,s,c,r,d,n,P,f,U,_,Q,_,y,O,D,_⟩
 ·cases Z
 ·simp only [Prod.mk.injEq,DataW.slice.injEq] at U
  obtain⟨⟨N,Y⟩,_⟩:=U
  have A:d = []:=by simpa using Y.symm
  have C:c=s:=by
   have:=(D rfl).1
   rw [A] at this
   simp at this
   omega
  have m:s=T.length:=by rw [←y,←List.length_map (f:=(·.1)),←N,List.length_map]
  have R:∀j x,T[j]? = some x->∀k u,([.int .i64 x.1,.bool x.2.1,.int .i64 x.2.2]:List Value)[k]? = some u->w.cell? (a.add (j * 3+k))=some u:=fun j x l k u E=>by
   have J:j<T.length:=(List.getElem?_eq_some_iff.1 l).1
   have v:=O j Aa
   rw [Abt] at v
   obtain⟨⟨K,W⟩,G,b⟩:=Option.map_eq_some_iff.1 (by rw [←List.getElem?_map,←N,List.getElem?_map,l];rfl)
   simp only at b
   subst b
   rw [G] at v
   obtain⟨X,z,H⟩:=Option.bind_eq_some_iff.1 v
   have M:=TQ H
   subst M
   have I:=(World.cells?_some z).2.2 k SC
   rw [E] at I
   rw [←I,Addr.add_add]
  obtain⟨p,B,rfl⟩:∃p B,T=p :: B:=by cases T with
   | nil=>exact absurd rfl V
   | cons p B=>exact⟨p,B,rfl⟩
  obtain⟨g,o,t⟩:=a
  have e:t=none:=by
   have:=World.cell?_spot (R 0 p rfl 0 _ rfl)
   simpa [Addr.add] using this
  subst e
  refine⟨g,o,by rw [f,C,m],fun j x l=>?_⟩
  have F:=R j x l 0 _ rfl
  have S:=R j x l 1 _ rfl
  have L:=R j x l 2 _ rfl
  rw [Addr.add_lit] at F S L
  exact⟨by simpa using F,by simpa [Nat.add_assoc] using S,by simpa [Nat.add_assoc] using L⟩
theorem BV{w:World}(h:Lib.VarReads Tryz.prog w "orchard/watch.tellings" Rows.laid_orchard_watch_tellings) :
  (∃g,Pw w 1 g [(0,false,1),(1,true,4)])/\(∃g,Pw w 2 g [(0,false,2),(1,false,2),(1,true,4)])/\∃g,Pw w 3 g [(0,false,3)]:=by
 obtain⟨g,t,cs,r,z,G,v,H,y⟩:=h
 obtain rfl:=Option.some.inj (gTl.symm.trans G)
 obtain rfl:=Option.some.inj (UP.symm.trans v)
 have d:∀(i:Nat) (T:List Tl),i<4->T≠[]->([.nil,.slice [tlD (0,false,1),tlD (1,true,4)] [],.slice [tlD (0,false,2),tlD (1,false,2),tlD (1,true,4)] [],.slice [tlD (0,false,3)] []]:List (DataW Unit))[i]? = some (.slice (T.map tlD) [])->∃g,Pw w i g T:=fun i T c V a=>by
  obtain⟨D,Z,F,S,P⟩:=Lib.array_elem Tryz.underlying286 y i c
  obtain rfl:=Option.some.inj (a.symm.trans S)
  rw [Abs,Nat.mul_one] at P
  obtain⟨g,o,M,s⟩:=TR V P
  refine⟨g,⟨o,Vs gTl H ?_,s⟩⟩
  have C:=congrArg (·[0]?) M
  grind
 simp_all
def BU{w}(h:Lib.VarReads prog w "orchard/watch.tellings" fou):w.cell? ⟨4,0,su⟩=ni (.slice su 0 0):=by
 have ⟨g,t,cs,a,p,G,v,H,y⟩:=h;obtain rfl:=aA (gTl.symm.trans G);obtain rfl:=aA (UP.symm.trans v);have ⟨D,b,F,S,P⟩:=Lib.array_elem underlying286 y 0 Aa;have L:=aA (S.symm.trans iP);subst L;rcases DataW.trod_slice Tryz.underlying285 P with⟨M,_⟩|⟨_,_,_,_,_,_,_,_,Z,_⟩
 ·apply Vs gTl H;have C:=aK (·[0]?) M
  grind
 ·cases Z
open Go.Maps
def Acm(w tb)(a:hU)(R:Hid (∀W,iM w W->Calls prog 178 #[x7 a] W λe B=>e=xr (.bool o9)/\iM W B)):Calls prog 163 #[iI tb,x7 a] w λf B=>f=xr (.tuple #[Nd.zero.val,iL 8])/\iM w B:=by
 have d:=m (heap_alloc_new w (.cells Nd.zero.cs 87));go_enter func163,ntmps163;go_wp2_with (go_at_call 178;apply(R.out _ (Be _ _)).mono;rintro e H⟨rfl,M⟩;have C:=m ((Be _ _).trans (M.mono Ad));have h:=m ((M.block _ (ltOf d.out)).trans d.out);have ⟨y,i,j,S,n,Y⟩:=My h.out iP;have ⟨Q,D,K,f3,J,k,_⟩:=Iv h.out;clear M);apply Hq (λX=>B8 H X w.1.size Nd.zero.cs 87) (((((((B8.refl h.out).set 0 _).set 1 _).set 2 _).set 3 _).set 4 _).set 5 _);intro X v;have ⟨b,c,g,z,x,E⟩:=My v.blk iP;exact bodyPost_ret (by simp[results,results163,go_sem,b,c,g,z,x,E]) iP ⟨iP,C.out.grown v.grown C.out.size (λm l=>by cases l;exact aB _)⟩
section
variable (w:qg) (a:Nat) (k:Int) (p d n:hU) (v:Int) (i s u:hU) (T N V:Int) (b c:Int)
 (r:Hid (∀W,iM w W->Calls prog 163 #[iI a,x7 p] W λe w'=>e=xr (.tuple #[.agg #[x7 i,x7 s,x7 u,iL T,iL N,iL V],iL b])/\iM W w'))
include r
def XA(l:Nat)(z:¬(10:Int)<(n.size:Int))(H:b=8/\c=8/\(l=148∨l=149/\p≠⟨#[47]⟩∨l=150)∨(b=0∨b=10)/\c=11/\(40:Int)<(d.size:Int)/\(l=148∨l=150)):Calls prog l #[iI a,Mx k p d n v] w λf B=>f=xr (iL c)/\iM w B:=by
 have U:=m (heap_alloc_new w (.cells #[iL k,x7 p,x7 d,x7 n,iL v] 152));rcases H with⟨rfl,rfl,rfl|⟨rfl,h⟩|rfl⟩|⟨rfl|rfl,rfl,e,rfl|rfl⟩
 all_goals try have X:(p.toList==[47])=o9:=by rw[Gi];exact decide_eq_false h
 all_goals first|go_enter func148,ntmps148|go_enter func149,ntmps149|go_enter func150,ntmps150
 all_goals go_wp2_with (go_at_call 163;apply(r.out _ (Be _ _)).mono;rintro f H⟨rfl,M⟩;have O:=m ((Be _ _).trans (M.mono Ad));have Z:=m ((M.block _ (ltOf U.out)).trans U.out);obtain⟨K,I⟩:∃K,H.alloc (.cells #[x7 i,x7 s,x7 u,iL T,iL N,iL V] 87)=K:=⟨_,iP⟩;have h:Hid (K.1[iS w.1]?=ni (.cells #[iL k,x7 p,x7 d,x7 n,iL v] 152)):=Al;have J:Hid (K.1[iS H.1]?=ni (.cells #[x7 i,x7 s,x7 u,iL T,iL N,iL V] 87)):=Am;have C:Hid (iM w K):=An;have ⟨_,c,l,x,y⟩:=Wd h.out iP;clear M)
 all_goals go_ret
 all_goals exact⟨iP,C.out⟩
end
open Go Go.Conc Go.Pair
def YF(h:4<=Y x):K (x++y)=K x:=by
 unfold K
 grind
def YG(h:0<K x):4<=Y x:=by
 unfold K at h;split at h<;>omega
theorem E6.longer{p a:List UInt8}(b:List UInt8){i:List (List UInt8)}{r:List UInt8}{P:Bool}(C:E6 p a i r P):Pl p→P=true→E6 p (a++b) i r true:=by
 induction C with
 | done p=>intro _ e;cases e
 | @long p a D c=>
  intro Q _
  refine .long (by simp [D]) ?_
  by_cases h:(a.length:Int)<Gn p
  ·have g:nn p a=a.length:=by unfold nn;rw [if_pos h]
   have e:De p a=p++a:=by unfold De;rw [g,List.take_length]
   rw [e] at c
   rw [AI Q h]
   unfold De
   rwa [YF (YG (by omega))]
  ·obtain⟨S,k⟩:=U8 Q h b
   have en:De p (a++b)=De p a:=by unfold De;grind
   rwa [en]
 | @body p a i r P D c L j O=>
  intro Q e
  have d:¬(a.length:Int)<Gn p:=fun h=>by
   have g:nn p a=a.length:=by unfold nn;rw [if_pos h]
   have:De p a=p++a:=by unfold De;rw [g,List.take_length]
   rw [this,Rv Q h] at L
   omega
  obtain⟨S,k⟩:=U8 Q d b
  have en:De p (a++b)=De p a:=by unfold De;grind
  have y:(a++b).drop (nn p (a++b))=a.drop (nn p a)++b:=by grind
  rw [←en]
  refine .body (by simp [D]) (by rwa [en]) (by rwa [en]) ?_
  rw [y]
  exact O I9 e
 | @more p a i r P D c L j O=>
  intro Q e
  by_cases h:(a.length:Int)<Gn p
  ·have g:nn p a=a.length:=by unfold nn;rw [if_pos h]
   rw [g,List.drop_length] at j
   subst e
   cases j with
   | long D _=>exact absurd rfl D
   | body D _ _ _=>exact absurd rfl D
   | more D _ _ _=>exact absurd rfl D
  ·obtain⟨S,k⟩:=U8 Q h b
   have en:De p (a++b)=De p a:=by unfold De;rw [S,List.take_append_of_le_length k]
   have y:(a++b).drop (nn p (a++b))=a.drop (nn p a)++b:=by rw [S,List.drop_append_of_le_length k]
   refine .more (by simp [D]) (by rwa [en]) (by rwa [en]) ?_
   rw [en,y]
   exact O (Mk Q c L) e
def E6.count{p a}{i:gY}{r}(C:E6 p a i r P):4 * Y i<=Y p+Y a:=by
 induction C with
 |done p=>simp
 |long D c=>simp
 |@body p a i r P D c L j O=>
  have K:=GB L;have z:=MV p a;rw[Oa]at K
  grind
 |@more p a i r P D c L j O=>
  have z:=MV p a;rw[cU,Oa]at O;omega
def NO(a b):O a b=⟨#[47]⟩∨(∃i:Fin 4,O a b=⟨#[47,yr (97+i.1)]⟩)∨∃(i:Fin 4)(j:Fin 3),O a b=⟨#[47,yr (97+i.1),47,yr (97+j.1)]⟩:=by
 have d:∀c(n:Nat),0<n->n<=20->∃i:Fin n,smB (Mo c n)=⟨#[yr (97+i.1)]⟩:=λc n C J=>by
  obtain⟨T,q⟩:=O5 c (n:=n) Aa;refine⟨⟨(Mo c n).toNat,Aa⟩,?_⟩;unfold smB;have e:Mo (Mo c n) 20=Mo c n:=by
   unfold Mo at *;rw[aL Aa];exact gG T Aa
  have L:(97+Mo c n).toNat=97+(Mo c n).toNat:=Aa;rw[e,L]
 unfold O;split
 ·exact .inl iP
 ·split
  ·obtain⟨i,V⟩:=d a 4 Aa Aa;exact .inr (.inl ⟨i,by rw[show((4:Nat):Int)=4 from iP]at V;rw[V];rfl⟩)
  ·obtain⟨i,V⟩:=d a 4 Aa Aa;obtain⟨j,l⟩:=d b 3 Aa Aa;exact .inr (.inr ⟨i,j,by rw[show((4:Nat):Int)=4 from iP]at V;rw[show((3:Nat):Int)=3 from iP]at l;rw[V,l];rfl⟩)
def Aee(a b):S (O a b)=tu/\Eb (O a b)=tu/\U (O a b)=tu:=by
 exact Wqt
def FX:U iN=tu:=Ae
def ZC(a b):Y4 U (O a b):=by
 obtain⟨C,J,T⟩:=Aee a b;have q:(Hw (O a b)).size<=24/\U (Hw (O a b))=tu/\(Ec (O a b)).size<=200/\U (Ec (O a b))=tu:=by
  exact Wqt
 exact⟨C,by have:=Tu a b;omega,T,J,⟨q.1,q.2.1⟩,q.2.2⟩
def ZV:U (Hw ⟨#[47]⟩)=tu:=by decide +kernel
def AO(c:UInt8):Bool:=c==47||Lf c.toNat
def Aec{c}(h:AO c=tu):c.toNat<128:=by
 unfold AO Lf at h;simp at h;rcases h with rfl|((h|h)|h)|h
 ·decide
 all_goals omega
def X4:∀k(s:hU),(∀p∈Lib.splitB ⟨#[47]⟩ 0 k s,∀c∈p.data.toList,AO c=tu)->∀c∈s.data.toList,AO c=tu
 |0,s,h=>h s (by simp[Lib.splitB])
 |k+1,s,h=>by
  rcases Lib.indexB_cases s ⟨#[47]⟩ with e|⟨i,e,l⟩
  ·rw[Lib.splitB_miss _ _ _ _ e]at h;exact h s Ad
  ·rw[Lib.splitB_hit _ _ _ _ i e]at h;have F:=(Lib.indexByte_some (l:=s.data.toList) (c:=47) (o:=i) ((Lib.index_one _ _).symm.trans e)).1;intro c M;obtain⟨j,a,rfl⟩:=eO.1 M;rcases gF j i with g|rfl|g
   ·apply h _ cH _;rw[dP];exact⟨j,by simp[g]⟩
   ·rw[aG a]at F;rw[aA F]
    decide
   ·apply X4 k _ (λp Q=>h p (cF _ Q)) _;rw[dP];refine⟨j - (i+1),?_⟩;have:(⟨#[47]⟩:hU).size=1:=iP;have b:Y s.data.toList=s.size:=iP;simp only[fF,fK,eR,this]
    grind
def SF{p}(h:S p=tu):∀c∈p.data.toList,AO c=tu:=by
 unfold S at h;simp only[aS,dR,decide_eq_true_eq]at h;obtain⟨_,h|⟨h,z⟩⟩:=h
 ·rw[Gi,decide_eq_true_eq]at h;subst h
  decide
 ·have D:=X4 _ (p.extract 1 p.size) (λq f c M=>by
   have:=cR.1 z q f;unfold Pn at this;simp only[aS]at this;have:=cR.1 this.2 c M;unfold AO;rw[this,Bool.or_true])
  obtain⟨F,s⟩:=Xe h;intro c M;obtain⟨j,a,rfl⟩:=eO.1 M
  match j with
  |0=>
   rw[aG a]at F;rw[aA F]
   decide
  |j+1=>
   apply D _;rw[dP];refine⟨j,?_⟩;have s:Y p.data.toList=p.size:=iP;simp only[fF,fK,eR]
   grind
def Uc{s}(h:∀c∈s.data.toList,AO c=tu):U s=tu:=by
 unfold U;rw[Lib.validD_ascii (Y s.data.toList) _ (λb D=>Aec (h b (gS D))),List.drop_length]
 rfl
def Xq{s:hU}{a b c}(h:c∈(s.extract a b).data.toList):c∈s.data.toList:=by
 simp only[fF,fK,eR]at h
 grind
def EH{p}(h:S p=tu):Y4 U p:=by
 have D:=SF h;have N:p.size<=24:=by
  unfold S at h
  grind
 have O:Eb p=tu:=by
  unfold S at h;simp only[aS,dR,decide_eq_true_eq]at h;obtain⟨_,h|⟨h,_⟩⟩:=h
  ·rw[Gi,decide_eq_true_eq]at h;subst h
   decide +kernel
  ·exact h
 refine⟨h,Aa,Uc D,O,⟨?_,(Uc λc M=>D c (Xq M))⟩,⟨?_,?_⟩⟩
 ·unfold Hw;rw[cM];omega
 ·unfold Ec;split
  ·decide
  ·rw[cM];omega
 ·unfold Ec;split
  ·decide
  ·exact Uc λc M=>D c (Xq M)
section
variable {Tabs:iA} {gN tb mb:Nat} {num:Int} {r:List (hU×Nd)} {a:Rq}
def ED{L}(V:Cj L tb mb num r)(G:V0 Tabs gN L)(o:8<=gN){p:hU}(Q:p.size<=1000)(k:iM L W):Calls prog 163 #[iI tb,x7 p] W λe B=>e=xr (.tuple #[(Fy r p).1.val,iL (Fy r p).2])/\iM W B:=by
 have ⟨m,a⟩:=G.ml;have C:1<iS L.1:=by have:=G.size;omega
 unfold Fy;by_cases h:S p=tu
 ·rw[aJ h];cases Z:E9 r p with
  |some x=>exact Yq V m a C p iN iN Q h Ae Ae k x (Fe Z)
  |none=>exact Yr V m a C p iN iN Q h Ae Ae k (Hb Z)
 ·rw[aL h];refine Acm W tb p λJ q=>?_;have:=To J m (((k.trans (q.mono k.size)).cell (p:=⟨1,0,su⟩) C).trans a) p Aa
  grind
def ZM(o:8<=gN)(d:Pm num r)(R:Ajy U a)(J:a.kind=2->a.d.size<=40):DR U Tabs gN tb mb num r a:=by
 by_cases G:(a.kind<=6->S a.p=tu)/\(a.kind<=3->a.d.size<=40)
 ·exact BA FX o d R.k1 (λh=>EH (G.1 h)) G.2
 have X:=R.k1;have l:=R.p;have g:a.kind<=3->(a.kind=1∨a.kind=2∨a.kind=3)/\((S a.p=o9/\(a.kind=2->a.p≠⟨#[47]⟩)/\E8 a.kind r a.p a.d a.ver=8)∨(S a.p=tu/\(40:Int)<(a.d.size:Int)/\a.kind≠2/\E8 a.kind r a.p a.d a.ver=11)):=λT=>by
  have E:a.kind=1∨a.kind=2∨a.kind=3:=Aa;refine⟨E,?_⟩;cases Q:S a.p with
  |false=>
   have Y:a.p≠⟨#[47]⟩:=λe=>by rw[e]at Q;exact absurd Q (by decide +kernel)
   refine .inl ⟨iP,λ_=>Y,?_⟩;unfold E8
   grind
  |true=>
   have y:¬a.d.size<=40:=λh=>G ⟨λ_=>Q,λ_=>h⟩;have p:a.kind≠2:=λh=>y (J h);refine .inr ⟨iP,Aa,p,?_⟩;unfold E8
   grind
 refine⟨λT L V b=>?_,λT M=>?_,λm n L V b=>ED V b o Aa (Below.refl _ _)⟩
 ·obtain⟨E,N⟩:=g T;have F:∀W,iM L W->∀f,(f=148/\a.kind=1∨f=149/\a.kind=2∨f=150/\a.kind=3)->∀k:Int,Calls prog f #[iI tb,Mx k a.p a.d iN a.ver] W λe B=>(∃c,e=xr (iL c)/\c=E8 a.kind r a.p a.d a.ver)/\iM W B:=λW k f I j=>by
   have s:=λi (q:iM W i)=>ED V b o (p:=a.p) Aa (k.trans (q.mono k.size));refine(XA W tb j a.p a.d iN a.ver _ _ _ _ _ _ (Fy r a.p).2 (E8 a.kind r a.p a.d a.ver) s f Ae ?_).mono λe B h=>⟨⟨_,h.1,iP⟩,h.2⟩;rcases N with⟨Q,Y,M⟩|⟨Q,y,p,M⟩
   ·refine .inl ⟨by unfold Fy;simp[Q],M,?_⟩
    grind
   ·refine .inr ⟨?_,M,y,?_⟩
    ·unfold Fy;rw[aJ Q];cases E9 r a.p with
     |some x=>exact .inl iP
     |none=>exact .inr iP
    ·rcases I with⟨h,_⟩|⟨h,P⟩|⟨h,_⟩
     ·exact .inl h
     ·exact absurd P p
     ·exact .inr h
  rcases E with h|h|h
  ·rw[h]at F⊢;exact(Ny L tb a.p a.d iN a.ver _ 1 148 (.inl ⟨iP,iP⟩) λW k=>F W k 148 (.inl ⟨iP,iP⟩) 1).mono λe B h=>⟨by obtain⟨⟨c,rfl,rfl⟩,_⟩:=h;rfl,h.2⟩
  ·rw[h]at F⊢;exact(Ny L tb a.p a.d iN a.ver _ 2 149 (.inr (.inl ⟨iP,iP⟩)) λW k=>F W k 149 (.inr (.inl ⟨iP,iP⟩)) 2).mono λe B h=>⟨by obtain⟨⟨c,rfl,rfl⟩,_⟩:=h;rfl,h.2⟩
  ·rw[h]at F⊢;exact(Ny L tb a.p a.d iN a.ver _ 3 150 (.inr (.inr ⟨iP,iP⟩)) λW k=>F W k 150 (.inr (.inr ⟨iP,iP⟩)) 3).mono λe B h=>⟨by obtain⟨⟨c,rfl,rfl⟩,_⟩:=h;rfl,h.2⟩
 omega
def OA{b body}(h:Hc b body=ni a)(E:a.kind=2):a.d.size<=40:=by
 unfold Hc at h;split at h
 ·cases h
 split at h
 rotate_left
 ·cases h
 split at h
 ·cases h
 split at h
 ·cases h
 cases h;unfold Og at E⊢;split
 ·split<;>simp_all<;>exact bE _
 ·exact bE _
def AZ(o:8<=gN)(T:Pm num r){body}(h:Hc U body=ni a):DR U Tabs gN tb mb num r a:=ZM o T (AY h) (OA h)
end
end Go.Proofs.YtcbilgmfdgpomaaGreatDoor
set_option maxRecDepth 10000
namespace Go.Proofs.YtcbilgmfdgpomaaGreatDoor
variable {e:I}{l:List M}
open Go Go.RowKit Go.Maps
structure Gr(G l l'):Prop where
 len:iR l'=iR l
 one:∀(j:Nat)(a:AS),l[j]?=ni a->∃(e:Bool)(b:hQ),l'[j]?=ni { a with en:=e,lo:=a.lo++b }/\iR b<=G
def Jk.gr{G V}(h:Jk G l V):Gr G l V:=⟨h.len,λj a d=>let⟨b,C,J⟩:=h.one j a d;⟨a.en,b,C,J⟩⟩
def Ak1(l i){b:hQ}{G}(D:Y b<=G):Gr G l (Na l i b):=
 ⟨by unfold Na;rw[List.length_modify],λj a d=>by
  unfold Na;rw[eQ,d];by_cases e:i=j
  ·simp_all
  ·exact⟨a.en,[],by simp[e],bE _⟩⟩
def Gr.trans{G V e}(h:Gr G l V)(k:Gr H V e):Gr (G+H) l e:=
 ⟨k.len.trans h.len,λj a d=>by
  have ⟨s,b,C,J⟩:=h.one j a d;have ⟨W,c,T,q⟩:=k.one j _ C
  grind⟩
def Gr.mono{G V}(h:Gr G l V)(p:G<=H):Gr H l V:=⟨h.len,λj a d=>let⟨s,b,C,J⟩:=h.one j a d;⟨s,b,C,aF J p⟩⟩
def Gr.refl(l):=(Jk.refl 0 l).gr
def Gr.keys{G V}(g:Gr G l V):V.map M.k=l.map M.k:=by
 apply bK;intro j;by_cases F:j<Y l
 ·have ⟨e,b,C,_⟩:=g.one j l[j] (aG F)
  grind
 ·have:=g.len
  grind
structure Pv(n)(σ)(l):Prop where
 inv:X9 n σ
 tk:Pm σ.num σ.ns
 tn:TrN Cp σ.ns
 h8:iR l<=8
 ord:(l.map AS.k).Pairwise (·<=·)
 kw:∀p∈l,keyOf prog 3 (iL p.k)=ni (Lit.int yi p.k)/\(Lit.int yi p.k).wf=tu
 lo:∀a∈l,iR a.lo<=n * 2000
 ver:∀a∈l,a.ver=1
def Pv.aok{n a}(P:Pv n a l)(z:n<=1000000):GD l:=⟨P.h8,P.ord,P.kw,λb h=>by have:=P.lo b h;omega⟩
def Pv.gr{n a G V}(P:Pv n a l)(h:Gr 2000 l V)(g:X9 (n+1) G)(i:Pm G.num G.ns)(T:TrN U G.ns):Pv (n+1) G V:=by
 have d:∀p∈V,∃b∈l,∃e c,p = { b with en:=e,lo:=b.lo++c }/\Y c<=2000:=λp Q=>by
  have ⟨j,f⟩:=dP.1 Q;have F:j<Y l:=by have:=(aD.1 f).1;have:=h.len;omega
  have ⟨e,c,C,J⟩:=h.one j l[j] (aG F)
  grind
 have E:=h.keys;refine⟨g,i,T,by rw[h.len];exact P.h8,by rw[E];exact P.ord,λp Q=>?_,λp Q=>?_,λp Q=>?_⟩
 ·obtain⟨b,e,_,c,rfl,_⟩:=d p Q;exact P.kw b e
 ·obtain⟨b,e,_,c,rfl,k⟩:=d p Q;have:=P.lo b e;simp only[aM];omega
 ·obtain⟨b,e,_,c,rfl,_⟩:=d p Q;exact P.ver b e
def Pv.mono{n a}(P:Pv n a l):=P.gr (Jk.refl _ _).gr P.inv.mono P.2 P.3
def Af0{r i a G V}(h:Hn r i a l G V)(J:r.kind=2->r.d.size<=40)(E:1<=r.kind)(b:¬((r.kind<=6->S r.p=tu)/\(r.kind<=3->r.d.size<=40))):∃e ks,G = { a with ks:=ks }/\V=Hi l i (We r.m a.num e):=by
 unfold Hn at h;split at h
 ·rcases h with⟨_,rfl,rfl⟩|⟨N,_⟩
  ·grind
  ·exfalso;unfold E8 at N
   grind
 ·split at h
  ·obtain⟨rfl,rfl⟩:=h;have Q:S r.p=o9:=by
    grind
   have e:(Fy a.ns r.p).2=8:=by unfold Fy;simp[Q]
   refine⟨8,_,iP,?_⟩;rw[e]
   rfl
  omega
def Pv.work{n r i a G V body}(P:Pv n a l)(Y:Hc U body=ni r)(h:Hn r i a l G V)(z:n<1000000):Pv (n+1) G V/\Gr 2000 l V:=by
 have R:=AY Y;by_cases c:(r.kind<=6->Hr r.p=tu)/\(r.kind<=3->r.d.size<=40)
 ·have Q:=λh=>EH (c.1 h);have g:=(CB h P.2 P.3 R.k1 Q).gr;refine⟨P.gr g (Af1 h P.inv R.k1 Q c.2) ?_ ?_,g⟩
  all_goals
   have H:=(AZ (Tabs:=λ_=>True) (gN:=8) (tb:=0) (mb:=0) Ae P.2 Y).ok;have I:=P.inv.num;unfold Hn at h;split at h
   ·rename_i T;have d:=R.k1;rcases h with⟨_,rfl,rfl⟩|⟨N,b,u,p,f,⟨rfl,rfl,rfl⟩|⟨rfl,rfl,rfl⟩⟩
    ·first|exact P.2|exact P.3
    ·first|exact P.2|exact P.3
    ·have C:=H T N
     first
     |exact P.2.done Aa Aa (by have:=C.ps;omega) C.sl C.1
     |exact P.3.done Aa C.6 C.nm
   ·split at h
    ·obtain⟨rfl,rfl⟩:=h
     first|exact P.2|exact P.3
    ·obtain⟨rfl,rfl⟩:=h
     first|exact P.2|exact P.3
 ·obtain⟨e,j,rfl,rfl⟩:=Af0 h (OA Y) R.k1 c;have J:=P.inv.mono;have g:=(Mh l i (b:=We r.m a.num e) (G:=2000) (by rw[N3];omega)).gr;exact⟨P.gr g ⟨J.num0,J.num,J.path,J.root,J.dn,J.left,J.L,J.d⟩ P.2 P.3,g⟩
def Pv.fault{n a}(P:Pv n a l)(i)(ks:iC)(e):Pv (n+1) { a with ks:=ks } (Na l i (La a.num e))/\Gr 2000 l (Na l i (La a.num e)):=by
 have J:=P.inv.mono;have g:=Ak1 l i (b:=La a.num e) (G:=2000) (by rw[Zq];omega);refine⟨P.gr g ⟨J.num0,J.num,J.path,J.root,J.dn,J.left,J.L,J.d⟩ P.2 P.3,g⟩
def Pv.body{n i a G l V b}(P:Pv n a l)(h:DT U b i a l G V)(z:n<1000000):Pv (n+1) G V/\Gr 2000 l V:=by
 have ⟨c,d,h⟩:=h;split at h
 ·obtain⟨rfl,rfl⟩:=h;exact⟨P.mono,(Gr.refl _).mono Aa⟩
 ·split at h
  ·have:=P.ver c (aV d);omega
  ·split at h
   ·obtain⟨rfl,rfl⟩:=h;exact P.fault i _ 3
   ·rename_i Y;exact P.work Y h z
def Pv.chain{i a G V}(h:Gj U i B a l G V):∀{n},Pv n a l->n+Y B<=1000000->Pv (n+Y B) G V/\Gr (Y B * 2000) l V:=by
 induction h with
 |nil a l=>intro n P _;exact⟨P,by exact Gr.refl l⟩
 |cons D _ O=>
  intro n P z;simp only[aU]at z⊢;have ⟨c,X⟩:=P.body D Aa;have ⟨b,o⟩:=O c Aa;rw[eM,Nat.add_comm 1]at b;exact⟨b,(X.trans o).mono Aa⟩
def Pv.le{n m a}(P:Pv n a l)(h:n<=m):Pv m a l:=by
 induction m with
 |zero=>grind
 |succ m O=>
  by_cases e:n=m+1
  ·exact e▸P
  ·exact(O Aa).mono
def Pv.long{n i t a G l V}(P:Pv n a l)(h:U4 i t a l G V):Pv (n+if t then 1 else 0) G V/\Gr 2000 l V:=by
 have ⟨b,d,h⟩:=h;split at h
 ·rename_i e;obtain⟨rfl,rfl⟩:=h;rw[aJ e.1];exact P.fault i _ 2
 ·obtain⟨rfl,rfl⟩:=h;exact⟨P.le Aa,(Gr.refl _).mono Aa⟩
end Go.Proofs.YtcbilgmfdgpomaaGreatDoor
set_option maxRecDepth 10000
namespace Go.Proofs.YtcbilgmfdgpomaaGreatDoor
variable {Z l:List M}{e:I}
open Go Go.RowKit Go.Maps
structure PQ(σ τ:ST):Prop where
 num:τ.num=σ.num
 ns:τ.ns=σ.ns
 ks:τ.ks=σ.ks
 dn:σ.down=o9/\τ.down=o9
 left:σ.left = -1/\τ.left = -1
def PQ.work{a b G n V q r i}(h:PQ a b)(C:Hn r i a l G V)(J:Hn r i b l n q):PQ G n/\q=V:=by
 obtain⟨I,U,X,⟨Z,T⟩,⟨S,L⟩⟩:=h;unfold Hn at C J;rw[I,U,X]at J;split at C
 ·rename_i E;rw[aJ E]at J;unfold chR at C J;rw[I,U,X,L]at J;rw[S]at C;rcases C with⟨e,rfl,rfl⟩|⟨M,c,u,p,Y,C⟩
  ·rcases J with⟨_,rfl,rfl⟩|⟨M,_⟩
   ·exact⟨⟨I,U,X,⟨Z,T⟩,⟨S,L⟩⟩,iP⟩
   ·exact absurd M e
  ·rcases J with⟨e,_⟩|⟨_,g,d,N,s,J⟩
   ·exact absurd M e
   ·obtain⟨rfl,rfl⟩:=Vf Y;obtain⟨rfl,rfl⟩:=Vf s;rcases C with⟨D,_⟩|⟨_,rfl,rfl⟩
    ·cases D
    ·rcases J with⟨D,_⟩|⟨_,rfl,rfl⟩
     ·cases D
     ·exact⟨⟨iP,iP,iP,⟨Z,T⟩,⟨iP,iP⟩⟩,iP⟩
 ·rename_i E;rw[aL E]at J;split at C
  ·rename_i H;rw[aJ H]at J;obtain⟨rfl,rfl⟩:=C;obtain⟨rfl,rfl⟩:=J;exact⟨⟨iP,iP,iP,⟨Z,T⟩,⟨S,L⟩⟩,iP⟩
  ·rename_i H;rw[aL H]at J;obtain⟨rfl,rfl⟩:=C;obtain⟨rfl,rfl⟩:=J;exact⟨⟨I,U,X,⟨Z,T⟩,⟨S,L⟩⟩,iP⟩
def PQ.body{a b G n l V q c i}(h:PQ a b)(C:DT U c i a l G V)(J:DT U c i b l n q):PQ G n/\q=V:=by
 have ⟨g,f,C⟩:=C;have ⟨j,Q,J⟩:=J;rw[f]at Q;obtain rfl:=aA Q;rw[h.dn.1]at C;rw[h.dn.2]at J;split at C
 ·grind
 ·rename_i e;rw[aL e]at J;split at C
  ·grind
  ·rename_i e;rw[aL e]at J;split at C
   ·rename_i e;rw[e]at J;obtain⟨rfl,rfl⟩:=C;obtain⟨rfl,rfl⟩:=J;exact⟨⟨h.num,h.ns,by simp only[h.ks],⟨iP,iP⟩,h.left⟩,by rw[h.num]⟩
   ·rename_i e;rw[e]at J;exact h.work C J
def PQ.chain{i b G V}(C:Gj U i B b l G V):∀{a n} {q},PQ b a->Gj U i B a l n q->PQ G n/\q=V:=by
 induction C with
 |nil b l=>intro a n q h J;cases J;exact⟨h,iP⟩
 |cons D _ O=>
  intro a n q h J;cases J with
  |cons c J=>
   obtain⟨P,rfl⟩:=h.body D c;exact O P J
def PQ.long{i t a b G n l V q}(h:PQ a b)(C:U4 i t a l G V)(J:U4 i t b l n q):PQ G n/\q=V:=by
 have ⟨g,f,C⟩:=C;have ⟨j,Q,J⟩:=J;rw[f]at Q;obtain rfl:=aA Q;split at C
 ·rename_i H;rw[aJ H]at J;obtain⟨rfl,rfl⟩:=C;obtain⟨rfl,rfl⟩:=J;exact⟨⟨h.num,h.ns,by simp only[h.ks],h.dn,h.left⟩,by rw[h.num]⟩
 grind
def Hz(i:Nat)(x q:hQ)(σ:I)(l:List M)(q':hQ)(σ':I)(l':List M):Prop:=
 ∃a,l[i]?=ni a/\if a.en=tu then σ'=σ/\l'=l/\q'=q else ∃B K t,E6 q x B K t/\FD U i B t σ l σ' l'/\q'=E l' i K
def Hz.det{i a b c d}(h:PQ a b)(C:Hz i x q a l F e d)(J:Hz i x q b l z c Z):PQ e c/\Z=d/\z=F:=by
 have ⟨g,f,C⟩:=C;have ⟨j,Q,J⟩:=J;rw[f]at Q;obtain rfl:=aA Q;split at C
 ·grind
 ·rename_i k;rw[aL k]at J;obtain⟨B,K,u,m,⟨v,w,n,R⟩,rfl⟩:=C;obtain⟨G,y,S,o,⟨A,D,p,r⟩,rfl⟩:=J;obtain⟨rfl,rfl,rfl⟩:=m.one o;obtain⟨s,rfl⟩:=h.chain n p;obtain⟨t,rfl⟩:=s.long R r;exact⟨t,iP,iP⟩
def Gj.append{i}{C:gY}{a T b}(h:Gj U i B a l e b)(k:Gj U i C e b T Z):Gj U i (B++C) a l T Z:=by
 induction h with
 |nil a l=>exact k
 |cons D _ O=>exact .cons D (O k)
def DU{i c a}(d:l[i]?=ni a)(N:a.en=tu):∀B:List (hQ),Gj U i B c l c l
 |[]=>.nil _ _
 |b::B=>.cons ⟨a,d,Ai⟩ (DU d N B)
def U4.no{i a G V}(h:U4 i o9 a l G V):G=a/\V=l:=by
 have ⟨b,_,h⟩:=h
 grind
def NN{i a}(d:l[i]?=ni a)(N:a.en=tu)(q):E l i q = []:=by
 unfold E;rw[d];simp[N]
def VH{i a}(d:l[i]?=ni a)(N:a.en=o9)(q):E l i q=q:=by
 unfold E;rw[d];simp[N]
def Hz.comp{i a T b}(Q:Pl q)(C:Hz i x q a l F e b)(J:Hz i y F e b z T Z):Hz i (x++y) q a l z T Z:=by
 obtain⟨m,n,C⟩:=C;refine⟨m,n,?_⟩;split at C
 ·rename_i j;obtain⟨rfl,rfl,rfl⟩:=C;obtain⟨A,E,J⟩:=J
  grind
 ·rename_i j;rw[aL j];obtain⟨B,K,t,c,⟨o,p,d,R⟩,rfl⟩:=C;obtain⟨k,D,J⟩:=J;have r:=c.ok Q;split at J
  ·rename_i g;obtain⟨rfl,rfl,rfl⟩:=J;cases t with
   |true=>exact⟨B,K,tu,c.longer y Q iP,⟨o,p,d,R⟩,iP⟩
   |false=>
    obtain⟨rfl,rfl⟩:=R.no;obtain⟨I,f,O,h⟩:=Nz _ K y (aB _) r;refine⟨B++I,f,O,c.append Q iP h,⟨_,_,d.append (DU D g I),k,D,?_⟩,?_⟩
    ·grind
    ·rw[NN D g,NN D g]
  ·rename_i g;have g:k.en=o9:=Aax;cases t with
   |true=>exact absurd (R.en iP D) (by simp[g])
   |false=>
    obtain⟨rfl,rfl⟩:=R.no;rw[VH D g]at J;obtain⟨I,f,O,h,⟨s,u,v,w⟩,rfl⟩:=J;exact⟨B++I,f,O,c.append Q iP h,⟨s,u,d.append v,w⟩,iP⟩
def Hz.nil{i b a}(h:l[i]?=ni a):Hz i [] q b l q b l:=by
 refine⟨a,h,?_⟩;cases e:a.en with
 |true=>simp
 |false=>
  refine⟨[],q,o9,.done q,⟨b,l,.nil _ _,a,h,?_⟩,(VH h e q).symm⟩
  grind
def Pv.feed{i n K b a G V}(P:Pv n a l)(h:Hz i x q a l K G V)(j:E6 q x B b t)(z:n+Y B+1<=1000000):Pv (n+Y B+if t then 1 else 0) G V/\∃N,Gr N l V:=by
 have ⟨e,g,h⟩:=h;split at h
 ·obtain⟨rfl,rfl,rfl⟩:=h;exact⟨P.le Aa,_,Gr.refl _⟩
 ·obtain⟨p,F,S,k,⟨s,u,f,R⟩,rfl⟩:=h;obtain⟨rfl,rfl,rfl⟩:=j.one k;have ⟨c,X⟩:=Pv.chain f P Aa;have ⟨d,o⟩:=c.long R;exact⟨d,_,X.trans o⟩
